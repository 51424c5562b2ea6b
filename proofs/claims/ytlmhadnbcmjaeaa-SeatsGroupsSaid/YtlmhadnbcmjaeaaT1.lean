/-
  A part of the proofs over this seat.
  (The texts KhT KhW, one behind the other.)
-/
import Derived.Test.YtlmhadnbcmjaeaaA0
import Derived.Test.YtlmhadnbcmjaeaaB1
set_option linter.unusedSimpArgs false
set_option linter.unusedVariables false
set_option linter.unusedSectionVars false
section
namespace Go.Ab.T
def tl7_T20 : ACode := (.seq (.seq (.region [Ob 20 (.mov (Ci 0))])
 (.block 4 (.loop (.seq (.seq (.region [Ob 173 (.mov (.t 20)),Ob 174 (.mov (.t 10)),Ob 175 (.bin .leq (.t 173) (.t 174))])
 (.cond (.t 175) (.skip)
 (.exit 4)))
 (.seq (.block 5 (.seq (.region [Ob 179 (.load (.t 3) (some 2)),Ob 180 (.mov (.t 18)),Ob 181 (.addr (.t 5) 0),Ob 182 (.load (.t 181) none),Ob 183 (.mov (.t 20)),Ob 184 (.bin .add (Ci 40) (.t 183)),Ob 185 (.call 14 [(.t 179), (.t 180), (.t 182), (.t 184)]),Ob 178 (.mov (.t 185)),Ob 186 (.ext (.t 178) 0),Ob 187 (.ext (.t 178) 1),Ob 21 (.new (.agg [(.int .i64 0), (.int .i64 0), (.int .i64 0), (.int .i64 0)]) 4),On (.store (.t 21) (.t 186) 4),Ob 22 (.mov (.t 187))])
 (.seq (.region [Ob 188 (.mov (.t 22)),Ob 189 (.bin .neq (.t 188) (Ci 0)),Ob 190 (.mov (.t 189)),Og 191 190 false (.addr (.t 21) 0),Og 192 190 false (.load (.t 191) none),Og 193 190 false (.bin .eql (.t 192) (Ci 2)),Og 194 190 false (.mov (.t 20)),Og 195 190 false (.mov (.t 10)),Og 196 190 false (.bin .lss (.t 194) (.t 195)),Og 197 190 false (.eqv true false [.b] (.t 193) (.t 196)),Ob 198 (.pick (.t 190) (.c (.bool true)) (.t 197)),Ob 199 (.mov (.t 198)),Og 200 199 false (.addr (.t 21) 0),Og 201 199 false (.load (.t 200) none),Og 202 199 false (.bin .eql (.t 201) (Ci 1)),Og 203 199 false (.mov (.t 20)),Og 204 199 false (.mov (.t 10)),Og 205 199 false (.bin .eql (.t 203) (.t 204)),Og 206 199 false (.eqv true false [.b] (.t 202) (.t 205)),Ob 207 (.pick (.t 199) (.c (.bool true)) (.t 206))])
 (.cond (.t 207) (.seq (.region [Ob 6 (.mov (.c (.bool false)))])
 (.ret))
 (.skip)))))
 (.region [Ob 176 (.mov (.t 20)),Ob 177 (.bin .add (.t 176) (Ci 1)),Ob 20 (.mov (.t 177))]))))))
 (.seq (.region [Ob 208 (.call 13 []),Ob 6 (.mov (.t 208))])
 (.ret)))
def tl7_T153 : ACode := (.seq (.region [Ob 153 (.lit false 44 5 []),Ob 154 (.mov (.t 1)),Ob 155 (.app false (.t 153) (.t 154) 44 5 40),Ob 18 (.mov (.t 155))])
 (.seq (.seq (.region [Ob 19 (.mov (Ci 0))])
 (.block 2 (.loop (.seq (.seq (.region [Ob 156 (.mov (.t 19)),Ob 157 (.mov (.t 10)),Ob 158 (.bin .leq (.t 156) (.t 157))])
 (.cond (.t 158) (.skip)
 (.exit 2)))
 (.seq (.block 3 (.region [Ob 161 (.mov (.t 18)),Ob 162 (.mov (.t 19)),Ob 163 (.bin .add (Ci 40) (.t 162)),Ob 164 (.addr (.t 5) 0),Ob 165 (.load (.t 164) none),Ob 166 (.mov (.t 19)),Ob 167 (.bin .add (Ci 40) (.t 166)),Ob 168 (.addr (.t 5) 2),Ob 169 (.load (.t 168) none),Ob 170 (.build [(.int .i64 0), (.int .i64 0), (.int .i64 0), (.int .i64 0), (.int .i64 0)] [(0, 1, (.t 163)), (1, 1, (.t 165)), (2, 1, (Ci 1)), (3, 1, (.t 167)), (4, 1, (.t 169))]),Ob 171 (.lit false 44 5 [(.t 170)]),Ob 172 (.app false (.t 161) (.t 171) 44 5 40),Ob 18 (.mov (.t 172))]))
 (.region [Ob 159 (.mov (.t 19)),Ob 160 (.bin .add (.t 159) (Ci 1)),Ob 19 (.mov (.t 160))]))))))
  tl7_T20))
def tl7_T150 : ACode := (.seq (.seq (.region [Ob 150 (.mov (.t 10)),Ob 151 (.bin .gtr (.t 150) (Ci 28))])
 (.cond (.t 151) (.seq (.region [Ob 152 (.call 13 []),Ob 6 (.mov (.t 152))])
 (.ret))
 (.skip)))
  tl7_T153)
def tl7_T135 : ACode := (.seq (.seq (.region [Ob 135 (.mov (.t 8)),Ob 136 (.bin .lss (.t 135) (Ci 12))])
 (.cond (.t 136) (.seq (.region [Ob 138 (.load (.t 3) (some 2)),Ob 139 (.mov (.t 1)),Ob 140 (.addr (.t 5) 0),Ob 141 (.load (.t 140) none),Ob 142 (.mov (.t 8)),Ob 143 (.bin .add (.t 142) (Ci 1)),Ob 144 (.call 20 [(.t 138), (.t 139), (.t 141), (.t 143)]),Ob 137 (.mov (.t 144)),Ob 145 (.ext (.t 137) 0),Ob 146 (.ext (.t 137) 1),Ob 147 (.ext (.t 137) 2),Ob 15 (.mov (.t 145)),Ob 16 (.mov (.t 146)),Ob 17 (.mov (.t 147))])
 (.seq (.region [Ob 148 (.mov (.t 17)),Ob 149 (.bin .neq (.t 148) (Ci 3))])
 (.cond (.t 149) (.seq (.region [Ob 6 (.mov (.c (.bool false)))])
 (.ret))
 (.skip))))
 (.skip)))
  tl7_T150)
def tl7_T121 : ACode := (.seq (.seq (.region [Ob 121 (.mov (.t 8)),Ob 122 (.bin .gtr (.t 121) (Ci 0))])
 (.cond (.t 122) (.seq (.region [Ob 124 (.load (.t 3) (some 2)),Ob 125 (.mov (.t 1)),Ob 126 (.addr (.t 5) 0),Ob 127 (.load (.t 126) none),Ob 128 (.mov (.t 8)),Ob 129 (.call 20 [(.t 124), (.t 125), (.t 127), (.t 128)]),Ob 123 (.mov (.t 129)),Ob 130 (.ext (.t 123) 0),Ob 131 (.ext (.t 123) 1),Ob 132 (.ext (.t 123) 2),Ob 12 (.mov (.t 130)),Ob 13 (.mov (.t 131)),Ob 14 (.mov (.t 132))])
 (.seq (.region [Ob 133 (.mov (.t 14)),Ob 134 (.bin .neq (.t 133) (Ci 0))])
 (.cond (.t 134) (.seq (.region [Ob 6 (.mov (.c (.bool false)))])
 (.ret))
 (.skip))))
 (.skip)))
  tl7_T135)
def tl7_T94 : ACode := (.seq (.seq (.region [Ob 94 (.mov (.t 9)),Ob 95 (.bin .neq (.t 94) (Ci 0)),Ob 96 (.mov (.t 95)),Og 97 96 false (.mov (.t 11)),Og 98 96 false (.bin .neq (.t 97) (Ci 0)),Ob 99 (.pick (.t 96) (.c (.bool true)) (.t 98)),Ob 100 (.mov (.t 99)),Og 101 100 false (.mov (.t 8)),Og 102 100 false (.bin .lss (.t 101) (Ci 0)),Ob 103 (.pick (.t 100) (.c (.bool true)) (.t 102)),Ob 104 (.mov (.t 103)),Og 105 104 false (.mov (.t 8)),Og 106 104 false (.bin .gtr (.t 105) (Ci 12)),Ob 107 (.pick (.t 104) (.c (.bool true)) (.t 106)),Ob 108 (.mov (.t 107)),Og 109 108 false (.mov (.t 10)),Og 110 108 false (.bin .lss (.t 109) (Ci 0)),Ob 111 (.pick (.t 108) (.c (.bool true)) (.t 110)),Ob 112 (.mov (.t 111)),Og 113 112 false (.mov (.t 10)),Og 114 112 false (.bin .gtr (.t 113) (Ci 0)),Og 115 112 false (.addr (.t 5) 2),Og 116 112 false (.load (.t 115) none),Og 117 112 false (.mov (.t 8)),Og 118 112 false (.bin .leq (.t 116) (.t 117)),Og 119 112 false (.eqv true false [.b] (.t 114) (.t 118)),Ob 120 (.pick (.t 112) (.c (.bool true)) (.t 119))])
 (.cond (.t 120) (.seq (.region [Ob 6 (.mov (.c (.bool false)))])
 (.ret))
 (.skip)))
  tl7_T121)
def c7 : ACode := .seq (.region [Ob 3 (.box (.t 0) 2),Ob 5 (.box (.t 2) 3),Ob 6 (.mov (.c (.bool false)))])
 (.seq (.seq (.region [Ob 23 (.load (.t 3) (some 2)),Ob 24 (.mov (.t 1)),Ob 25 (.addr (.t 5) 0),Ob 26 (.load (.t 25) none),Ob 27 (.call 11 [(.t 23), (.t 24), (.t 26)]),Ob 28 (.not (.t 27)),Ob 29 (.mov (.t 28)),Og 30 29 false (.addr (.t 5) 2),Og 31 29 false (.load (.t 30) none),Og 32 29 false (.bin .lss (.t 31) (Ci 1)),Ob 33 (.pick (.t 29) (.c (.bool true)) (.t 32)),Ob 34 (.mov (.t 33)),Og 35 34 false (.addr (.t 5) 2),Og 36 34 false (.load (.t 35) none),Og 37 34 false (.bin .gtr (.t 36) (Ci 12)),Ob 38 (.pick (.t 34) (.c (.bool true)) (.t 37)),Ob 39 (.mov (.t 38)),Og 40 39 false (.mov (.t 1)),Og 41 39 false (.len (.t 40)),Og 42 39 false (.bin .gtr (.t 41) (Ci 10)),Ob 43 (.pick (.t 39) (.c (.bool true)) (.t 42))])
 (.cond (.t 43) (.seq (.region [Ob 44 (.call 13 []),Ob 6 (.mov (.t 44))])
 (.ret))
 (.skip)))
 (.seq (.seq (.region [Ob 7 (.mov (Ci 0))])
 (.block 0 (.loop (.seq (.seq (.region [Ob 45 (.mov (.t 7)),Ob 46 (.mov (.t 1)),Ob 47 (.len (.t 46)),Ob 48 (.bin .lss (.t 45) (.t 47))])
 (.cond (.t 48) (.skip)
 (.exit 0)))
 (.seq (.block 1 (.seq (.region [Ob 51 (.mov (.t 1)),Ob 52 (.mov (.t 7)),Ob 53 (.idx (.t 51) (.t 52) 5),Ob 54 (.addr (.t 53) 1),Ob 55 (.load (.t 54) none),Ob 56 (.addr (.t 5) 0),Ob 57 (.load (.t 56) none),Ob 58 (.bin .gtr (.t 55) (.t 57)),Ob 59 (.mov (.t 58)),Og 60 59 false (.mov (.t 1)),Og 61 59 false (.mov (.t 7)),Og 62 59 false (.idx (.t 60) (.t 61) 5),Og 63 59 false (.addr (.t 62) 3),Og 64 59 false (.load (.t 63) none),Og 65 59 false (.bin .geq (.t 64) (Ci 40)),Ob 66 (.pick (.t 59) (.c (.bool true)) (.t 65)),Ob 67 (.mov (.t 66)),Og 68 67 false (.mov (.t 1)),Og 69 67 false (.mov (.t 7)),Og 70 67 false (.idx (.t 68) (.t 69) 5),Og 71 67 false (.addr (.t 70) 0),Og 72 67 false (.load (.t 71) none),Og 73 67 false (.bin .geq (.t 72) (Ci 40)),Ob 74 (.pick (.t 67) (.c (.bool true)) (.t 73))])
 (.cond (.t 74) (.seq (.region [Ob 75 (.call 13 []),Ob 6 (.mov (.t 75))])
 (.ret))
 (.skip))))
 (.region [Ob 49 (.mov (.t 7)),Ob 50 (.bin .add (.t 49) (Ci 1)),Ob 7 (.mov (.t 50))]))))))
 (.seq (.region [Ob 77 (.load (.t 3) (some 2)),Ob 78 (.mov (.t 1)),Ob 79 (.addr (.t 5) 0),Ob 80 (.load (.t 79) none),Ob 81 (.call 23 [(.t 77), (.t 78), (.t 80)]),Ob 76 (.mov (.t 81)),Ob 82 (.ext (.t 76) 0),Ob 83 (.ext (.t 76) 1),Ob 8 (.mov (.t 82)),Ob 9 (.mov (.t 83))])
 (.seq (.region [Ob 85 (.load (.t 3) (some 2)),Ob 86 (.mov (.t 1)),Ob 87 (.addr (.t 5) 0),Ob 88 (.load (.t 87) none),Ob 89 (.addr (.t 5) 2),Ob 90 (.load (.t 89) none),Ob 91 (.call 24 [(.t 85), (.t 86), (.t 88), (.t 90)]),Ob 84 (.mov (.t 91)),Ob 92 (.ext (.t 84) 0),Ob 93 (.ext (.t 84) 1),Ob 10 (.mov (.t 92)),Ob 11 (.mov (.t 93))])
  tl7_T94))))
def r7 : List Res := [.t 6]
def a7 : AFn := ⟨3, c7, r7,.v⟩
def c11 : ACode := .seq (.region [Ob 3 (.box (.t 0) 2),Ob 6 (.mov (.c (.bool false)))])
 (.seq (.region [Ob 7 (.load (.t 3) (some 2)),Ob 8 (.mov (.t 1)),Ob 9 (.call 31 [(.t 7), (.t 8)]),Ob 10 (.not (.t 9)),Ob 11 (.mov (.t 10)),Og 12 11 true (.load (.t 3) (some 2)),Og 13 11 true (.mov (.t 1)),Og 14 11 true (.call 32 [(.t 12), (.t 13)]),Og 15 11 true (.bin .eql (.t 14) (Ci 0)),Ob 16 (.pick (.t 11) (.t 15) (.c (.bool false))),Ob 17 (.mov (.t 16)),Og 18 17 true (.mov (.t 2)),Og 19 17 true (.bin .geq (.t 18) (Ci 0)),Ob 20 (.pick (.t 17) (.t 19) (.c (.bool false))),Ob 21 (.mov (.t 20)),Og 22 21 true (.mov (.t 2)),Og 23 21 true (.bin .leq (.t 22) (Ci 9999)),Ob 24 (.pick (.t 21) (.t 23) (.c (.bool false))),Ob 6 (.mov (.t 24))])
 (.ret))
def r11 : List Res := [.t 6]
def a11 : AFn := ⟨3, c11, r11,.v⟩
def c13 : ACode := .seq (.region [Ob 0 (.mov (.c (.bool false)))])
 (.seq (.region [Ob 11 (.call 33 []),Ob 10 (.mov (.t 11)),Ob 12 (.ext (.t 10) 0),Ob 13 (.ext (.t 10) 1),Ob 1 (.new (.agg [(.sl [] .tight), (.int .i64 0)]) 2),On (.store (.t 1) (.t 12) 2),Ob 2 (.mov (.t 13))])
 (.seq (.region [Ob 15 (.load (.t 1) (some 2)),Ob 16 (.mov (.t 2)),Ob 17 (.call 14 [(.t 15), (.t 16), (Ci 12), (Ci 2)]),Ob 14 (.mov (.t 17)),Ob 18 (.ext (.t 14) 0),Ob 19 (.ext (.t 14) 1),Ob 3 (.new (.agg [(.int .i64 0), (.int .i64 0), (.int .i64 0), (.int .i64 0)]) 4),On (.store (.t 3) (.t 18) 4),Ob 4 (.mov (.t 19))])
 (.seq (.region [Ob 21 (.load (.t 1) (some 2)),Ob 22 (.mov (.t 2)),Ob 23 (.call 20 [(.t 21), (.t 22), (Ci 1), (Ci 1)]),Ob 20 (.mov (.t 23)),Ob 24 (.ext (.t 20) 0),Ob 25 (.ext (.t 20) 1),Ob 26 (.ext (.t 20) 2),Ob 5 (.mov (.t 24)),Ob 6 (.mov (.t 25)),Ob 7 (.mov (.t 26))])
 (.seq (.region [Ob 28 (.load (.t 1) (some 2)),Ob 29 (.mov (.t 2)),Ob 30 (.call 17 [(.t 28), (.t 29), (Ci 12)]),Ob 27 (.mov (.t 30)),Ob 31 (.ext (.t 27) 0),Ob 32 (.ext (.t 27) 1),Ob 8 (.mov (.t 31)),Ob 9 (.mov (.t 32))])
 (.seq (.region [Ob 33 (.mov (.t 4)),Ob 34 (.bin .eql (.t 33) (Ci 0)),Ob 35 (.mov (.t 34)),Og 36 35 true (.mov (.t 7)),Og 37 35 true (.bin .eql (.t 36) (Ci 0)),Ob 38 (.pick (.t 35) (.t 37) (.c (.bool false))),Ob 39 (.mov (.t 38)),Og 40 39 true (.mov (.t 9)),Og 41 39 true (.bin .eql (.t 40) (Ci 0)),Ob 42 (.pick (.t 39) (.t 41) (.c (.bool false))),Ob 43 (.mov (.t 42)),Og 44 43 true (.load (.t 3) (some 4)),Og 45 43 true (.build [(.int .i64 0), (.int .i64 0), (.int .i64 0), (.int .i64 0)] [(0, 1, (Ci 4)), (1, 1, (Ci (-1))), (2, 1, (Ci (-1))), (3, 1, (Ci 2))]),Og 46 43 true (.eqv false true [.i,.i,.i,.i] (.t 44) (.t 45)),Ob 47 (.pick (.t 43) (.t 46) (.c (.bool false))),Ob 48 (.mov (.t 47)),Og 49 48 true (.mov (.t 5)),Og 50 48 true (.bin .eql (.t 49) (Ci 0)),Ob 51 (.pick (.t 48) (.t 50) (.c (.bool false))),Ob 52 (.mov (.t 51)),Og 53 52 true (.mov (.t 6)),Og 54 52 true (.bin .eql (.t 53) (Ci 4)),Ob 55 (.pick (.t 52) (.t 54) (.c (.bool false))),Ob 56 (.mov (.t 55)),Og 57 56 true (.mov (.t 8)),Og 58 56 true (.lit false 3 1 [(Ci 2)]),Og 59 56 true (.call 19 [(.t 57), (.t 58)]),Ob 60 (.pick (.t 56) (.t 59) (.c (.bool false))),Ob 0 (.mov (.t 60))])
 (.ret))))))
def r13 : List Res := [.t 0]
def a13 : AFn := ⟨0, c13, r13,.v⟩
def c14 : ACode := .seq (.region [Ob 4 (.box (.t 0) 2),Ob 8 (.new (.agg [(.int .i64 0), (.int .i64 0), (.int .i64 0), (.int .i64 0)]) 4),Ob 9 (.mov (Ci 0))])
 (.seq (.region [Ob 13 (.load (.t 4) (some 2)),Ob 14 (.mov (.t 1)),Ob 15 (.mov (.t 2)),Ob 16 (.call 34 [(.t 13), (.t 14), (.t 15)]),Ob 12 (.mov (.t 16)),Ob 17 (.ext (.t 12) 0),Ob 18 (.ext (.t 12) 1),Ob 10 (.new (.agg [(.sl [] .tight), (.int .i64 0), (.sl [] .tight),.nilm, (.sl [] .tight)]) 5),On (.store (.t 10) (.t 17) 5),Ob 11 (.mov (.t 18))])
 (.seq (.seq (.region [Ob 19 (.mov (.t 11)),Ob 20 (.bin .neq (.t 19) (Ci 0))])
 (.cond (.t 20) (.seq (.region [Ob 21 (.build [(.int .i64 0), (.int .i64 0), (.int .i64 0), (.int .i64 0)] []),Ob 22 (.mov (.t 11)),On (.store (.t 8) (.t 21) 4),Ob 9 (.mov (.t 22))])
 (.ret))
 (.skip)))
 (.seq (.seq (.region [Ob 23 (.mov (.t 3)),Ob 24 (.call 35 [(.t 23)]),Ob 25 (.not (.t 24))])
 (.cond (.t 25) (.seq (.region [Ob 26 (.build [(.int .i64 0), (.int .i64 0), (.int .i64 0), (.int .i64 0)] []),On (.store (.t 8) (.t 26) 4),Ob 9 (.mov (Ci 1))])
 (.ret))
 (.skip)))
 (.seq (.region [Ob 27 (.mov (.t 3)),Ob 28 (.call 36 [(.t 10), (.t 27)]),On (.store (.t 8) (.t 28) 4),Ob 9 (.mov (Ci 0))])
 (.ret)))))
def r14 : List Res := [.cell 8 (some 4),.t 9]
def a14 : AFn := ⟨4, c14, r14,.v⟩
def c17 : ACode := .seq (.region [Ob 3 (.box (.t 0) 2),Ob 6 (.mov (.c (.sl [] .tight))),Ob 7 (.mov (Ci 0))])
 (.seq (.region [Ob 11 (.load (.t 3) (some 2)),Ob 12 (.mov (.t 1)),Ob 13 (.mov (.t 2)),Ob 14 (.call 34 [(.t 11), (.t 12), (.t 13)]),Ob 10 (.mov (.t 14)),Ob 15 (.ext (.t 10) 0),Ob 16 (.ext (.t 10) 1),Ob 8 (.new (.agg [(.sl [] .tight), (.int .i64 0), (.sl [] .tight),.nilm, (.sl [] .tight)]) 5),On (.store (.t 8) (.t 15) 5),Ob 9 (.mov (.t 16))])
 (.seq (.seq (.region [Ob 17 (.mov (.t 9)),Ob 18 (.bin .neq (.t 17) (Ci 0))])
 (.cond (.t 18) (.seq (.region [Ob 19 (.mov (.t 9)),Ob 6 (.mov (.c (.sl [] .tight))),Ob 7 (.mov (.t 19))])
 (.ret))
 (.skip)))
 (.seq (.region [Ob 20 (.addr (.t 8) 4),Ob 21 (.load (.t 20) none),Ob 22 (.call 37 [(.t 21)])])
 (.seq (.region [Ob 23 (.addr (.t 8) 4),Ob 24 (.load (.t 23) none),Ob 25 (.call 38 [(.t 24)]),Ob 6 (.mov (.t 25)),Ob 7 (.mov (Ci 0))])
 (.ret)))))
def r17 : List Res := [.t 6,.t 7]
def a17 : AFn := ⟨3, c17, r17,.v⟩
def c19 : ACode := .seq (.region [Ob 4 (.mov (.c (.bool false)))])
 (.seq (.seq (.region [Ob 6 (.mov (.t 0)),Ob 7 (.len (.t 6)),Ob 8 (.mov (.t 1)),Ob 9 (.len (.t 8)),Ob 10 (.bin .neq (.t 7) (.t 9))])
 (.cond (.t 10) (.seq (.region [Ob 4 (.mov (.c (.bool false)))])
 (.ret))
 (.skip)))
 (.seq (.seq (.region [Ob 5 (.mov (Ci 0))])
 (.block 0 (.loop (.seq (.seq (.region [Ob 11 (.mov (.t 5)),Ob 12 (.mov (.t 0)),Ob 13 (.len (.t 12)),Ob 14 (.bin .lss (.t 11) (.t 13))])
 (.cond (.t 14) (.skip)
 (.exit 0)))
 (.seq (.block 1 (.seq (.region [Ob 17 (.mov (.t 0)),Ob 18 (.mov (.t 5)),Ob 19 (.idx (.t 17) (.t 18) 1),Ob 20 (.load (.t 19) none),Ob 21 (.mov (.t 1)),Ob 22 (.mov (.t 5)),Ob 23 (.idx (.t 21) (.t 22) 1),Ob 24 (.load (.t 23) none),Ob 25 (.bin .neq (.t 20) (.t 24))])
 (.cond (.t 25) (.seq (.region [Ob 4 (.mov (.c (.bool false)))])
 (.ret))
 (.skip))))
 (.region [Ob 15 (.mov (.t 5)),Ob 16 (.bin .add (.t 15) (Ci 1)),Ob 5 (.mov (.t 16))]))))))
 (.seq (.region [Ob 4 (.mov (.c (.bool true)))])
 (.ret))))
def r19 : List Res := [.t 4]
def a19 : AFn := ⟨2, c19, r19,.v⟩
def c20 : ACode := .seq (.region [Ob 4 (.box (.t 0) 2),Ob 8 (.mov (Ci 0)),Ob 9 (.mov (Ci 0)),Ob 10 (.mov (Ci 0))])
 (.seq (.region [Ob 14 (.load (.t 4) (some 2)),Ob 15 (.mov (.t 1)),Ob 16 (.mov (.t 2)),Ob 17 (.call 34 [(.t 14), (.t 15), (.t 16)]),Ob 13 (.mov (.t 17)),Ob 18 (.ext (.t 13) 0),Ob 19 (.ext (.t 13) 1),Ob 11 (.new (.agg [(.sl [] .tight), (.int .i64 0), (.sl [] .tight),.nilm, (.sl [] .tight)]) 5),On (.store (.t 11) (.t 18) 5),Ob 10 (.mov (.t 19))])
 (.seq (.seq (.region [Ob 20 (.mov (.t 10)),Ob 21 (.bin .neq (.t 20) (Ci 0))])
 (.cond (.t 21) (.seq (.region [Ob 22 (.mov (.t 10)),Ob 8 (.mov (Ci 0)),Ob 9 (.mov (Ci 0)),Ob 10 (.mov (.t 22))])
 (.ret))
 (.skip)))
 (.seq (.seq (.region [Ob 23 (.mov (.t 3)),Ob 24 (.call 39 [(.t 23)]),Ob 25 (.not (.t 24))])
 (.cond (.t 25) (.seq (.region [Ob 8 (.mov (Ci 0)),Ob 9 (.mov (Ci 0)),Ob 10 (.mov (Ci 1))])
 (.ret))
 (.skip)))
 (.seq (.region [Ob 27 (.mov (.t 3)),Ob 28 (.call 40 [(.t 11), (.t 27)]),Ob 26 (.mov (.t 28)),Ob 29 (.ext (.t 26) 0),Ob 30 (.ext (.t 26) 1),Ob 31 (.ext (.t 26) 2),Ob 8 (.mov (.t 29)),Ob 9 (.mov (.t 30)),Ob 12 (.mov (.t 31))])
 (.seq (.seq (.region [Ob 32 (.mov (.t 12)),Ob 33 (.not (.t 32))])
 (.cond (.t 33) (.seq (.region [Ob 8 (.mov (Ci 0)),Ob 9 (.mov (Ci 0)),Ob 10 (.mov (Ci 3))])
 (.ret))
 (.skip)))
 (.seq (.region [Ob 34 (.mov (.t 8)),Ob 35 (.mov (.t 9)),Ob 8 (.mov (.t 34)),Ob 9 (.mov (.t 35)),Ob 10 (.mov (Ci 0))])
 (.ret)))))))
def r20 : List Res := [.t 8,.t 9,.t 10]
def a20 : AFn := ⟨4, c20, r20,.v⟩
def c23 : ACode := .seq (.region [Ob 3 (.box (.t 0) 2),Ob 6 (.mov (Ci 0)),Ob 7 (.mov (Ci 0))])
 (.seq (.region [Ob 15 (.load (.t 3) (some 2)),Ob 16 (.mov (.t 1)),Ob 17 (.mov (.t 2)),Ob 18 (.call 34 [(.t 15), (.t 16), (.t 17)]),Ob 14 (.mov (.t 18)),Ob 19 (.ext (.t 14) 0),Ob 20 (.ext (.t 14) 1),Ob 8 (.new (.agg [(.sl [] .tight), (.int .i64 0), (.sl [] .tight),.nilm, (.sl [] .tight)]) 5),On (.store (.t 8) (.t 19) 5),Ob 9 (.mov (.t 20))])
 (.seq (.seq (.region [Ob 21 (.mov (.t 9)),Ob 22 (.bin .neq (.t 21) (Ci 0))])
 (.cond (.t 22) (.seq (.region [Ob 23 (.mov (.t 9)),Ob 6 (.mov (Ci 0)),Ob 7 (.mov (.t 23))])
 (.ret))
 (.skip)))
 (.seq (.seq (.region [Ob 10 (.mov (Ci 12))])
 (.block 0 (.loop (.seq (.seq (.region [Ob 24 (.mov (.t 10)),Ob 25 (.bin .gtr (.t 24) (Ci 0))])
 (.cond (.t 25) (.skip)
 (.exit 0)))
 (.seq (.block 1 (.seq (.region [Ob 29 (.mov (.t 10)),Ob 30 (.call 40 [(.t 8), (.t 29)]),Ob 28 (.mov (.t 30)),Ob 31 (.ext (.t 28) 0),Ob 32 (.ext (.t 28) 1),Ob 33 (.ext (.t 28) 2),Ob 11 (.mov (.t 31)),Ob 12 (.mov (.t 32)),Ob 13 (.mov (.t 33))])
 (.seq (.region [Ob 34 (.mov (.t 13))])
 (.cond (.t 34) (.seq (.region [Ob 35 (.mov (.t 10)),Ob 6 (.mov (.t 35)),Ob 7 (.mov (Ci 0))])
 (.ret))
 (.skip)))))
 (.region [Ob 26 (.mov (.t 10)),Ob 27 (.bin .sub (.t 26) (Ci 1)),Ob 10 (.mov (.t 27))]))))))
 (.seq (.region [Ob 6 (.mov (Ci 0)),Ob 7 (.mov (Ci 0))])
 (.ret)))))
def r23 : List Res := [.t 6,.t 7]
def a23 : AFn := ⟨3, c23, r23,.v⟩
def c24 : ACode := .seq (.region [Ob 4 (.box (.t 0) 2),Ob 8 (.mov (Ci 0)),Ob 9 (.mov (Ci 0))])
 (.seq (.region [Ob 13 (.load (.t 4) (some 2)),Ob 14 (.mov (.t 1)),Ob 15 (.mov (.t 2)),Ob 16 (.call 34 [(.t 13), (.t 14), (.t 15)]),Ob 12 (.mov (.t 16)),Ob 17 (.ext (.t 12) 0),Ob 18 (.ext (.t 12) 1),Ob 10 (.new (.agg [(.sl [] .tight), (.int .i64 0), (.sl [] .tight),.nilm, (.sl [] .tight)]) 5),On (.store (.t 10) (.t 17) 5),Ob 11 (.mov (.t 18))])
 (.seq (.seq (.region [Ob 19 (.mov (.t 11)),Ob 20 (.bin .neq (.t 19) (Ci 0))])
 (.cond (.t 20) (.seq (.region [Ob 21 (.mov (.t 11)),Ob 8 (.mov (Ci 0)),Ob 9 (.mov (.t 21))])
 (.ret))
 (.skip)))
 (.seq (.seq (.region [Ob 22 (.mov (.t 3)),Ob 23 (.call 39 [(.t 22)]),Ob 24 (.not (.t 23))])
 (.cond (.t 24) (.seq (.region [Ob 8 (.mov (Ci 0)),Ob 9 (.mov (Ci 1))])
 (.ret))
 (.skip)))
 (.seq (.region [Ob 25 (.mov (.t 3)),Ob 26 (.call 42 [(.t 10), (.t 25)]),Ob 8 (.mov (.t 26)),Ob 9 (.mov (Ci 0))])
 (.ret)))))
def r24 : List Res := [.t 8,.t 9]
def a24 : AFn := ⟨4, c24, r24,.v⟩
def c25 : ACode := .seq (.region [Ob 1 (.box (.t 0) 2),Ob 2 (.mov (.c (.bool false)))])
 (.seq (.seq (.region [Ob 3 (.mov (Ci 0))])
 (.block 0 (.loop (.seq (.seq (.region [Ob 4 (.mov (.t 3)),Ob 5 (.addr (.t 1) 0),Ob 6 (.load (.t 5) none),Ob 7 (.len (.t 6)),Ob 8 (.bin .lss (.t 4) (.t 7))])
 (.cond (.t 8) (.skip)
 (.exit 0)))
 (.seq (.block 1 (.seq (.region [Ob 11 (.addr (.t 1) 0),Ob 12 (.load (.t 11) none),Ob 13 (.mov (.t 3)),Ob 14 (.idx (.t 12) (.t 13) 1),Ob 15 (.load (.t 14) none),Ob 16 (.call 43 [(.t 15), (Ci 1), (Ci 12)]),Ob 17 (.not (.t 16))])
 (.cond (.t 17) (.seq (.region [Ob 2 (.mov (.c (.bool false)))])
 (.ret))
 (.skip))))
 (.region [Ob 9 (.mov (.t 3)),Ob 10 (.bin .add (.t 9) (Ci 1)),Ob 3 (.mov (.t 10))]))))))
 (.seq (.region [Ob 18 (.addr (.t 1) 0),Ob 19 (.load (.t 18) none),Ob 20 (.len (.t 19)),Ob 21 (.call 43 [(.t 20), (Ci 1), (Ci 6)]),Ob 22 (.mov (.t 21)),Og 23 22 true (.addr (.t 1) 1),Og 24 22 true (.load (.t 23) none),Og 25 22 true (.call 43 [(.t 24), (Ci 1), (Ci 600)]),Ob 26 (.pick (.t 22) (.t 25) (.c (.bool false))),Ob 2 (.mov (.t 26))])
 (.ret)))
def r25 : List Res := [.t 2]
def a25 : AFn := ⟨1, c25, r25,.v⟩
def c31 : ACode := .seq (.region [Ob 2 (.box (.t 0) 2),Ob 4 (.mov (.c (.bool false)))])
 (.seq (.region [Ob 5 (.addr (.t 2) 0),Ob 6 (.load (.t 5) none),Ob 7 (.len (.t 6)),Ob 8 (.bin .gtr (.t 7) (Ci 30)),Ob 9 (.mov (.t 8)),Og 10 9 false (.mov (.t 1)),Og 11 9 false (.len (.t 10)),Og 12 9 false (.bin .gtr (.t 11) (Ci 60)),Ob 13 (.pick (.t 9) (.c (.bool true)) (.t 12)),Ob 4 (.mov (.t 13))])
 (.ret))
def r31 : List Res := [.t 4]
def a31 : AFn := ⟨2, c31, r31,.v⟩
def c32 : ACode := .seq (.region [Ob 2 (.box (.t 0) 2),Ob 4 (.mov (Ci 0))])
 (.seq (.seq (.region [Ob 7 (.load (.t 2) (some 2)),Ob 8 (.call 25 [(.t 7)]),Ob 9 (.not (.t 8))])
 (.cond (.t 9) (.seq (.region [Ob 4 (.mov (Ci 40))])
 (.ret))
 (.skip)))
 (.seq (.seq (.region [Ob 10 (.mov (.t 1)),Ob 11 (.len (.t 10)),Ob 12 (.bin .gtr (.t 11) (Ci 40))])
 (.cond (.t 12) (.seq (.region [Ob 4 (.mov (Ci 41))])
 (.ret))
 (.skip)))
 (.seq (.seq (.region [Ob 5 (.mov (Ci 0))])
 (.block 0 (.loop (.seq (.seq (.region [Ob 13 (.mov (.t 5)),Ob 14 (.mov (.t 1)),Ob 15 (.len (.t 14)),Ob 16 (.bin .lss (.t 13) (.t 15))])
 (.cond (.t 16) (.skip)
 (.exit 0)))
 (.seq (.block 1 (.seq (.seq (.region [Ob 19 (.mov (.t 1)),Ob 20 (.mov (.t 5)),Ob 21 (.idx (.t 19) (.t 20) 5),Ob 22 (.load (.t 21) (some 5)),Ob 23 (.call 48 [(.t 22)]),Ob 24 (.not (.t 23))])
 (.cond (.t 24) (.seq (.region [Ob 4 (.mov (Ci 41))])
 (.ret))
 (.skip)))
 (.seq (.region [Ob 6 (.mov (Ci 0))])
 (.block 2 (.loop (.seq (.seq (.region [Ob 25 (.mov (.t 6)),Ob 26 (.mov (.t 5)),Ob 27 (.bin .lss (.t 25) (.t 26))])
 (.cond (.t 27) (.skip)
 (.exit 2)))
 (.seq (.block 3 (.seq (.region [Ob 30 (.mov (.t 1)),Ob 31 (.mov (.t 6)),Ob 32 (.idx (.t 30) (.t 31) 5),Ob 33 (.addr (.t 32) 0),Ob 34 (.load (.t 33) none),Ob 35 (.mov (.t 1)),Ob 36 (.mov (.t 5)),Ob 37 (.idx (.t 35) (.t 36) 5),Ob 38 (.addr (.t 37) 0),Ob 39 (.load (.t 38) none),Ob 40 (.bin .eql (.t 34) (.t 39)),Ob 41 (.mov (.t 40)),Og 42 41 true (.mov (.t 1)),Og 43 41 true (.mov (.t 6)),Og 44 41 true (.idx (.t 42) (.t 43) 5),Og 45 41 true (.load (.t 44) (some 5)),Og 46 41 true (.mov (.t 1)),Og 47 41 true (.mov (.t 5)),Og 48 41 true (.idx (.t 46) (.t 47) 5),Og 49 41 true (.load (.t 48) (some 5)),Og 50 41 true (.eqv true true [.i,.i,.i,.i,.i] (.t 45) (.t 49)),Ob 51 (.pick (.t 41) (.t 50) (.c (.bool false)))])
 (.cond (.t 51) (.seq (.region [Ob 4 (.mov (Ci 41))])
 (.ret))
 (.skip))))
 (.region [Ob 28 (.mov (.t 6)),Ob 29 (.bin .add (.t 28) (Ci 1)),Ob 6 (.mov (.t 29))]))))))))
 (.region [Ob 17 (.mov (.t 5)),Ob 18 (.bin .add (.t 17) (Ci 1)),Ob 5 (.mov (.t 18))]))))))
 (.seq (.region [Ob 4 (.mov (Ci 0))])
 (.ret)))))
def r32 : List Res := [.t 4]
def a32 : AFn := ⟨2, c32, r32,.v⟩
def c33 : ACode := .seq (.region [Ob 0 (.new (.agg [(.sl [] .tight), (.int .i64 0)]) 2),Ob 1 (.mov (.c (.sl [] .tight)))])
 (.seq (.region [Ob 2 (.lit false 3 1 [(Ci 5), (Ci 3)]),Ob 3 (.build [(.sl [] .tight), (.int .i64 0)] [(0, 1, (.t 2)), (1, 1, (Ci 10))]),Ob 4 (.build [(.int .i64 0), (.int .i64 0), (.int .i64 0), (.int .i64 0), (.int .i64 0)] [(0, 1, (Ci 1)), (2, 1, (Ci 1)), (3, 1, (Ci 1)), (4, 1, (Ci 2))]),Ob 5 (.build [(.int .i64 0), (.int .i64 0), (.int .i64 0), (.int .i64 0), (.int .i64 0)] [(0, 1, (Ci 2)), (1, 1, (Ci 1)), (2, 1, (Ci 1)), (3, 1, (Ci 2)), (4, 1, (Ci 2))]),Ob 6 (.build [(.int .i64 0), (.int .i64 0), (.int .i64 0), (.int .i64 0), (.int .i64 0)] [(0, 1, (Ci 3)), (1, 1, (Ci 5)), (2, 1, (Ci 2)), (3, 1, (Ci 1))]),Ob 7 (.build [(.int .i64 0), (.int .i64 0), (.int .i64 0), (.int .i64 0), (.int .i64 0)] [(0, 1, (Ci 4)), (1, 1, (Ci 12)), (2, 1, (Ci 1)), (3, 1, (Ci 3)), (4, 1, (Ci 3))]),Ob 8 (.build [(.int .i64 0), (.int .i64 0), (.int .i64 0), (.int .i64 0), (.int .i64 0)] [(0, 1, (Ci 5)), (1, 1, (Ci 11)), (2, 1, (Ci 2)), (3, 1, (Ci 2))]),Ob 9 (.lit false 44 5 [(.t 4), (.t 5), (.t 6), (.t 7), (.t 8)]),On (.store (.t 0) (.t 3) 2),Ob 1 (.mov (.t 9))])
 (.ret))
def r33 : List Res := [.cell 0 (some 2),.t 1]
def a33 : AFn := ⟨0, c33, r33,.v⟩
def c34 : ACode := .seq (.region [Ob 3 (.box (.t 0) 2),Ob 6 (.new (.agg [(.sl [] .tight), (.int .i64 0), (.sl [] .tight),.nilm, (.sl [] .tight)]) 5),Ob 7 (.mov (Ci 0))])
 (.seq (.seq (.region [Ob 14 (.load (.t 3) (some 2)),Ob 15 (.mov (.t 1)),Ob 16 (.call 49 [(.t 14), (.t 15)]),Ob 8 (.mov (.t 16))])
 (.seq (.region [Ob 17 (.mov (.t 8)),Ob 18 (.bin .neq (.t 17) (Ci 0))])
 (.cond (.t 18) (.seq (.region [Ob 19 (.build [(.sl [] .tight), (.int .i64 0), (.sl [] .tight),.nilm, (.sl [] .tight)] []),Ob 20 (.mov (.t 8)),On (.store (.t 6) (.t 19) 5),Ob 7 (.mov (.t 20))])
 (.ret))
 (.skip))))
 (.seq (.seq (.region [Ob 21 (.mov (.t 2)),Ob 22 (.call 50 [(.t 21)]),Ob 23 (.not (.t 22))])
 (.cond (.t 23) (.seq (.region [Ob 24 (.build [(.sl [] .tight), (.int .i64 0), (.sl [] .tight),.nilm, (.sl [] .tight)] []),On (.store (.t 6) (.t 24) 5),Ob 7 (.mov (Ci 1))])
 (.ret))
 (.skip)))
 (.seq (.region [Ob 25 (.load (.t 3) (some 2)),Ob 26 (.mkmap .i),Ob 27 (.build [(.sl [] .tight), (.int .i64 0), (.sl [] .tight),.nilm, (.sl [] .tight)] [(0, 2, (.t 25)), (3, 1, (.t 26))]),Ob 9 (.new (.agg [(.sl [] .tight), (.int .i64 0), (.sl [] .tight),.nilm, (.sl [] .tight)]) 5),On (.store (.t 9) (.t 27) 5)])
 (.seq (.seq (.region [Ob 28 (.addr (.t 9) 0),Ob 29 (.addr (.t 28) 0),Ob 30 (.load (.t 29) none),Ob 31 (.len (.t 30)),Ob 32 (.mov (Ci 0))])
 (.block 0 (.loop (.seq (.region [Ob 33 (.bin .lss (.t 32) (.t 31))])
 (.seq (.cond (.t 33) (.skip)
 (.exit 0))
 (.seq (.block 1 (.seq (.region [Ob 34 (.idx (.t 30) (.t 32) 1),Ob 35 (.load (.t 34) none),Ob 11 (.mov (.t 35))])
 (.region [Ob 36 (.addr (.t 9) 2),Ob 37 (.load (.t 36) none),Ob 38 (.lit false 3 1 [(Ci (-1))]),Ob 39 (.mov (.t 11)),Ob 40 (.call 51 [(.t 38), (.t 39)]),Ob 41 (.lit false 22 1 [(.t 40)]),Ob 42 (.app false (.t 37) (.t 41) 22 1 24),Ob 43 (.addr (.t 9) 2),On (.store (.t 43) (.t 42) 1)])))
 (.region [Ob 44 (.bin .add (.t 32) (Ci 1)),Ob 32 (.mov (.t 44))])))))))
 (.seq (.seq (.region [Ob 45 (.mov (.t 1)),Ob 46 (.call 52 [(.t 45)]),Ob 47 (.len (.t 46)),Ob 48 (.mov (Ci 0))])
 (.block 2 (.loop (.seq (.region [Ob 49 (.bin .lss (.t 48) (.t 47))])
 (.seq (.cond (.t 49) (.skip)
 (.exit 2))
 (.seq (.block 3 (.seq (.region [Ob 50 (.idx (.t 46) (.t 48) 5),Ob 51 (.load (.t 50) (some 5)),Ob 13 (.new (.agg [(.int .i64 0), (.int .i64 0), (.int .i64 0), (.int .i64 0), (.int .i64 0)]) 5),On (.store (.t 13) (.t 51) 5)])
 (.seq (.region [Ob 52 (.addr (.t 13) 1),Ob 53 (.load (.t 52) none),Ob 54 (.mov (.t 2)),Ob 55 (.bin .leq (.t 53) (.t 54))])
 (.cond (.t 55) (.region [Ob 56 (.load (.t 13) (some 5)),Ob 57 (.call 53 [(.t 9), (.t 56)])])
 (.skip)))))
 (.region [Ob 58 (.bin .add (.t 48) (Ci 1)),Ob 48 (.mov (.t 58))])))))))
 (.seq (.region [Ob 59 (.mov (.t 2)),Ob 60 (.call 54 [(.t 9), (.t 59)])])
 (.seq (.region [Ob 61 (.load (.t 9) (some 5)),On (.store (.t 6) (.t 61) 5),Ob 7 (.mov (Ci 0))])
 (.ret))))))))
def r34 : List Res := [.cell 6 (some 5),.t 7]
def a34 : AFn := ⟨3, c34, r34,.r⟩
def c35 : ACode := .seq (.region [Ob 2 (.mov (.c (.bool false)))])
 (.seq (.region [Ob 3 (.mov (.t 0)),Ob 4 (.call 55 [(.t 3), (Ci 0), (Ci 99)]),Ob 2 (.mov (.t 4))])
 (.ret))
def r35 : List Res := [.t 2]
def a35 : AFn := ⟨1, c35, r35,.v⟩
def c36 : ACode := .seq (.region [Ob 4 (.new (.agg [(.int .i64 0), (.int .i64 0), (.int .i64 0), (.int .i64 0)]) 4)])
 (.seq (.seq (.region [Ob 8 (.mov (.t 0)),Ob 9 (.addr (.t 8) 0),Ob 10 (.addr (.t 9) 3),Ob 11 (.load (.t 10) none),Ob 12 (.mov (.t 1)),Ob 13 (.mget .i .nilp true (.t 11) (.t 12)),Ob 7 (.mov (.t 13)),Ob 14 (.ext (.t 7) 0),Ob 15 (.ext (.t 7) 1),Ob 5 (.mov (.t 14)),Ob 6 (.mov (.t 15))])
 (.seq (.region [Ob 16 (.mov (.t 6))])
 (.cond (.t 16) (.seq (.region [Ob 17 (.mov (.t 5)),Ob 18 (.addr (.t 17) 0),Ob 19 (.addr (.t 18) 0),Ob 20 (.load (.t 19) (some 4)),On (.store (.t 4) (.t 20) 4)])
 (.ret))
 (.skip))))
 (.seq (.region [Ob 21 (.build [(.int .i64 0), (.int .i64 0), (.int .i64 0), (.int .i64 0)] [(0, 1, (Ci 0)), (1, 1, (Ci (-1))), (2, 1, (Ci (-1)))]),On (.store (.t 4) (.t 21) 4)])
 (.ret)))
def r36 : List Res := [.cell 4 (some 4)]
def a36 : AFn := ⟨2, c36, r36,.r⟩
def c37 : ACode := .seq (.region [Ob 3 (.mov (.t 0)),Ob 4 (.len (.t 3)),Ob 2 (.mov (.t 4))])
 (.region [Ob 5 (.mov (.t 0)),Ob 6 (.mov (.t 2)),Ob 7 (.mov (.t 2)),Ob 8 (.conv .u64 (.t 7)),Ob 9 (.call 57 [(.t 8)]),Ob 10 (.call 56 [(.t 5), (Ci 0), (.t 6), (.t 9)])])
def r37 : List Res := []
def a37 : AFn := ⟨1, c37, r37,.r⟩
def c38 : ACode := .seq (.region [Ob 2 (.mov (.c (.sl [] .tight)))])
 (.seq (.seq (.region [Ob 6 (.mov (.t 0)),Ob 7 (.len (.t 6)),Ob 8 (.bin .lss (.t 7) (Ci 2))])
 (.cond (.t 8) (.seq (.region [Ob 9 (.mov (.t 0)),Ob 2 (.mov (.t 9))])
 (.ret))
 (.skip)))
 (.seq (.seq (.region [Ob 3 (.mov (Ci 1))])
 (.block 0 (.loop (.seq (.seq (.region [Ob 10 (.mov (.t 3)),Ob 11 (.mov (.t 0)),Ob 12 (.len (.t 11)),Ob 13 (.bin .lss (.t 10) (.t 12))])
 (.cond (.t 13) (.skip)
 (.exit 0)))
 (.seq (.block 1 (.seq (.region [Ob 16 (.mov (.t 0)),Ob 17 (.mov (.t 3)),Ob 18 (.idx (.t 16) (.t 17) 1),Ob 19 (.load (.t 18) none),Ob 20 (.mov (.t 0)),Ob 21 (.mov (.t 3)),Ob 22 (.bin .sub (.t 21) (Ci 1)),Ob 23 (.idx (.t 20) (.t 22) 1),Ob 24 (.load (.t 23) none),Ob 25 (.bin .eql (.t 19) (.t 24))])
 (.cond (.t 25) (.seq (.region [Ob 26 (.mov (.t 0)),Ob 27 (.mov (.t 3)),Ob 28 (.slice (.t 26) (some (.t 27)) none 1),Ob 4 (.mov (.t 28))])
 (.seq (.seq (.region [Ob 5 (.mov (Ci 1))])
 (.block 2 (.loop (.seq (.seq (.region [Ob 29 (.mov (.t 5)),Ob 30 (.mov (.t 4)),Ob 31 (.len (.t 30)),Ob 32 (.bin .lss (.t 29) (.t 31))])
 (.cond (.t 32) (.skip)
 (.exit 2)))
 (.seq (.block 3 (.seq (.region [Ob 35 (.mov (.t 4)),Ob 36 (.mov (.t 5)),Ob 37 (.idx (.t 35) (.t 36) 1),Ob 38 (.load (.t 37) none),Ob 39 (.mov (.t 4)),Ob 40 (.mov (.t 5)),Ob 41 (.bin .sub (.t 40) (Ci 1)),Ob 42 (.idx (.t 39) (.t 41) 1),Ob 43 (.load (.t 42) none),Ob 44 (.bin .neq (.t 38) (.t 43))])
 (.cond (.t 44) (.seq (.region [Ob 45 (.mov (.t 0)),Ob 46 (.mov (.t 3)),Ob 47 (.mov (.t 4)),Ob 48 (.mov (.t 5)),Ob 49 (.idx (.t 47) (.t 48) 1),Ob 50 (.load (.t 49) none),Ob 51 (.idx (.t 45) (.t 46) 1),On (.store (.t 51) (.t 50) 1)])
 (.region [Ob 52 (.mov (.t 3)),Ob 53 (.bin .add (.t 52) (Ci 1)),Ob 3 (.mov (.t 53))]))
 (.skip))))
 (.region [Ob 33 (.mov (.t 5)),Ob 34 (.bin .add (.t 33) (Ci 1)),Ob 5 (.mov (.t 34))]))))))
 (.seq (.region [Ob 54 (.mov (.t 0)),Ob 55 (.mov (.t 3)),Ob 56 (.slice (.t 54) (some (.t 55)) none 1),On (.clr (.t 56) (.int .i64 0) 1)])
 (.seq (.region [Ob 57 (.mov (.t 0)),Ob 58 (.mov (.t 3)),Ob 59 (.slice (.t 57) none (some (.t 58)) 1),Ob 2 (.mov (.t 59))])
 (.ret)))))
 (.skip))))
 (.region [Ob 14 (.mov (.t 3)),Ob 15 (.bin .add (.t 14) (Ci 1)),Ob 3 (.mov (.t 15))]))))))
 (.seq (.region [Ob 60 (.mov (.t 0)),Ob 2 (.mov (.t 60))])
 (.ret))))
def r38 : List Res := [.t 2]
def a38 : AFn := ⟨1, c38, r38,.r⟩
def c39 : ACode := .seq (.region [Ob 2 (.mov (.c (.bool false)))])
 (.seq (.region [Ob 3 (.mov (.t 0)),Ob 4 (.call 55 [(.t 3), (Ci 1), (Ci 12)]),Ob 2 (.mov (.t 4))])
 (.ret))
def r39 : List Res := [.t 2]
def a39 : AFn := ⟨1, c39, r39,.v⟩
def c40 : ACode := .seq (.region [Ob 2 (.box (.t 0) 1),Ob 3 (.box (.t 1) 1),Ob 4 (.new (.int .i64 0) 1),Ob 5 (.new (.int .i64 0) 1),Ob 6 (.new (.bool false) 1)])
 (.seq (.seq (.region [Ob 9 (.load (.t 2) none),Ob 10 (.load (.t 3) none),Ob 11 (.call 58 [(.t 9), (.t 10)])])
 (.block 0 (.range (.t 11) [12, 13] (.seq (.region [Ob 7 (.mov (.t 12))])
 (.region [Ob 8 (.mov (.t 13))]))
 (.block 1 (.seq (.seq (.region [Ob 14 (.load (.t 2) none),Ob 15 (.addr (.t 14) 0),Ob 16 (.addr (.t 15) 2),Ob 17 (.load (.t 16) none),Ob 18 (.mov (.t 7)),Ob 19 (.idx (.t 17) (.t 18) 1),Ob 20 (.load (.t 19) none),Ob 21 (.mov (.t 8)),Ob 22 (.load (.t 3) none),Ob 23 (.call 59 [(.t 20), (.t 21), (.t 22)]),Ob 24 (.not (.t 23))])
 (.cond (.t 24) (.seq (.region [Ob 25 (.mov (.t 7)),Ob 26 (.mov (.t 8)),On (.store (.t 4) (.t 25) 1),On (.store (.t 5) (.t 26) 1),On (.store (.t 6) (.c (.bool true)) 1)])
 (.ret))
 (.skip)))
 (.seq (.region [Ob 27 (.load (.t 6) none),Ob 28 (.not (.t 27))])
 (.cond (.t 28) (.region [Ob 29 (.mov (.t 7)),Ob 30 (.mov (.t 8)),On (.store (.t 4) (.t 29) 1),On (.store (.t 5) (.t 30) 1),On (.store (.t 6) (.c (.bool true)) 1)])
 (.skip))))))))
 (.seq (.regionD [Ob 31 (.load (.t 4) none),Ob 32 (.load (.t 5) none),Ob 33 (.load (.t 6) none),On (.store (.t 4) (.t 31) 1),On (.store (.t 5) (.t 32) 1),On (.store (.t 6) (.t 33) 1)] [(5, 4), (6, 4), (6, 5)])
 (.ret)))
def r40 : List Res := [.cell 4 none,.cell 5 none,.cell 6 none]
def a40 : AFn := ⟨2, c40, r40,.r⟩
def c42 : ACode := .seq (.region [Ob 3 (.box (.t 1) 1),Ob 4 (.mov (Ci 0))])
 (.seq (.region [Ob 5 (.new (.int .i64 0) 1),Ob 6 (.new (.int .i64 0) 1),Ob 7 (.new (.int .i64 0) 1),On (.store (.t 5) (Ci 0) 1),On (.store (.t 6) (Ci (-1)) 1),On (.store (.t 7) (Ci 0) 1)])
 (.seq (.seq (.region [Ob 10 (.mov (.t 0)),Ob 11 (.load (.t 3) none),Ob 12 (.call 58 [(.t 10), (.t 11)])])
 (.block 0 (.range (.t 12) [13, 14] (.seq (.region [Ob 8 (.mov (.t 13))])
 (.region [Ob 9 (.mov (.t 14))]))
 (.block 1 (.seq (.region [Ob 15 (.mov (.t 8)),Ob 16 (.load (.t 6) none),Ob 17 (.bin .neq (.t 15) (.t 16)),Ob 18 (.mov (.t 17)),Og 19 18 false (.mov (.t 9)),Og 20 18 false (.load (.t 7) none),Og 21 18 false (.bin .geq (.t 19) (.t 20)),Ob 22 (.pick (.t 18) (.c (.bool true)) (.t 21))])
 (.cond (.t 22) (.regionD [Ob 23 (.load (.t 5) none),Ob 24 (.bin .add (.t 23) (Ci 1)),Ob 25 (.mov (.t 8)),Ob 26 (.mov (.t 9)),Ob 27 (.load (.t 3) none),Ob 28 (.bin .add (.t 26) (.t 27)),On (.store (.t 5) (.t 24) 1),On (.store (.t 6) (.t 25) 1),On (.store (.t 7) (.t 28) 1)] [(3, 5), (3, 6)])
 (.skip)))))))
 (.seq (.region [Ob 29 (.load (.t 5) none),Ob 4 (.mov (.t 29))])
 (.ret))))
def r42 : List Res := [.t 4]
def a42 : AFn := ⟨2, c42, r42,.r⟩
def c43 : ACode := .seq (.region [Ob 6 (.mov (.c (.bool false)))])
 (.seq (.region [Ob 7 (.mov (.t 0)),Ob 8 (.mov (.t 1)),Ob 9 (.bin .geq (.t 7) (.t 8)),Ob 10 (.mov (.t 9)),Og 11 10 true (.mov (.t 0)),Og 12 10 true (.mov (.t 2)),Og 13 10 true (.bin .leq (.t 11) (.t 12)),Ob 14 (.pick (.t 10) (.t 13) (.c (.bool false))),Ob 6 (.mov (.t 14))])
 (.ret))
def r43 : List Res := [.t 6]
def a43 : AFn := ⟨3, c43, r43,.v⟩
def c44 : ACode := .seq (.region [Ob 1 (.box (.t 0) 2),Ob 2 (.mov (.c (.bool false)))])
 (.seq (.region [Ob 3 (.addr (.t 1) 0),Ob 4 (.load (.t 3) none),Ob 5 (.len (.t 4)),Ob 6 (.call 55 [(.t 5), (Ci 1), (Ci 6)]),Ob 7 (.mov (.t 6)),Og 8 7 true (.addr (.t 1) 0),Og 9 7 true (.load (.t 8) none),Og 10 7 true (.call 45 [(.t 9), (.c (.fn 39 [] []))]),Ob 11 (.pick (.t 7) (.t 10) (.c (.bool false))),Ob 12 (.mov (.t 11)),Og 13 12 true (.addr (.t 1) 1),Og 14 12 true (.load (.t 13) none),Og 15 12 true (.call 55 [(.t 14), (Ci 1), (Ci 600)]),Ob 16 (.pick (.t 12) (.t 15) (.c (.bool false))),Ob 2 (.mov (.t 16))])
 (.ret))
def r44 : List Res := [.t 2]
def a44 : AFn := ⟨1, c44, r44,.v⟩
def c45 : ACode := .seq (.region [Ob 3 (.box (.t 1) 1),Ob 4 (.mov (.c (.bool false)))])
 (.seq (.region [Ob 5 (.mov (.t 0)),Ob 6 (.clo 61 [] [(.t 3)]),Ob 7 (.call 60 [(.t 5), (.t 6)]),Ob 8 (.not (.t 7)),Ob 4 (.mov (.t 8))])
 (.ret))
def r45 : List Res := [.t 4]
def a45 : AFn := ⟨2, c45, r45,.v⟩
def c48 : ACode := .seq (.region [Ob 1 (.box (.t 0) 5),Ob 2 (.mov (.c (.bool false)))])
 (.seq (.seq (.region [Ob 3 (.addr (.t 1) 0),Ob 4 (.load (.t 3) none),Ob 5 (.call 43 [(.t 4), (Ci 0), (Ci 99)]),Ob 6 (.not (.t 5)),Ob 7 (.mov (.t 6)),Og 8 7 false (.addr (.t 1) 1),Og 9 7 false (.load (.t 8) none),Og 10 7 false (.call 43 [(.t 9), (Ci 0), (Ci 9999)]),Og 11 7 false (.not (.t 10)),Ob 12 (.pick (.t 7) (.c (.bool true)) (.t 11)),Ob 13 (.mov (.t 12)),Og 14 13 false (.addr (.t 1) 3),Og 15 13 false (.load (.t 14) none),Og 16 13 false (.call 43 [(.t 15), (Ci 0), (Ci 99)]),Og 17 13 false (.not (.t 16)),Ob 18 (.pick (.t 13) (.c (.bool true)) (.t 17))])
 (.cond (.t 18) (.seq (.region [Ob 2 (.mov (.c (.bool false)))])
 (.ret))
 (.skip)))
 (.seq (.seq (.region [Ob 19 (.addr (.t 1) 2),Ob 20 (.load (.t 19) none),Ob 21 (.bin .eql (.t 20) (Ci 1))])
 (.cond (.t 21) (.seq (.region [Ob 22 (.addr (.t 1) 4),Ob 23 (.load (.t 22) none),Ob 24 (.call 43 [(.t 23), (Ci 1), (Ci 12)]),Ob 2 (.mov (.t 24))])
 (.ret))
 (.skip)))
 (.seq (.region [Ob 25 (.addr (.t 1) 2),Ob 26 (.load (.t 25) none),Ob 27 (.bin .eql (.t 26) (Ci 2)),Ob 28 (.mov (.t 27)),Og 29 28 false (.addr (.t 1) 2),Og 30 28 false (.load (.t 29) none),Og 31 28 false (.bin .eql (.t 30) (Ci 3)),Ob 32 (.pick (.t 28) (.c (.bool true)) (.t 31)),Ob 33 (.mov (.t 32)),Og 34 33 true (.addr (.t 1) 4),Og 35 33 true (.load (.t 34) none),Og 36 33 true (.bin .eql (.t 35) (Ci 0)),Ob 37 (.pick (.t 33) (.t 36) (.c (.bool false))),Ob 2 (.mov (.t 37))])
 (.ret))))
def r48 : List Res := [.t 2]
def a48 : AFn := ⟨1, c48, r48,.v⟩
def c49 : ACode := .seq (.region [Ob 2 (.box (.t 0) 2),Ob 4 (.mov (Ci 0))])
 (.seq (.block 0 (.seq (.region [Ob 6 (.load (.t 2) (some 2)),Ob 7 (.call 44 [(.t 6)]),Ob 8 (.not (.t 7)),Ob 5 (.mov (.t 8))])
 (.cond (.t 5) (.seq (.region [Ob 4 (.mov (Ci 40))])
 (.ret))
 (.seq (.region [Ob 10 (.mov (.t 1)),Ob 11 (.call 66 [(.t 10)]),Ob 12 (.not (.t 11)),Ob 13 (.mov (.t 12)),Og 14 13 false (.mov (.t 1)),Og 15 13 false (.call 67 [(.t 14)]),Ob 16 (.pick (.t 13) (.c (.bool true)) (.t 15)),Ob 9 (.mov (.t 16))])
 (.cond (.t 9) (.seq (.region [Ob 4 (.mov (Ci 41))])
 (.ret))
 (.skip))))))
 (.seq (.region [Ob 4 (.mov (Ci 0))])
 (.ret)))
def r49 : List Res := [.t 4]
def a49 : AFn := ⟨2, c49, r49,.v⟩
def c50 : ACode := .seq (.region [Ob 2 (.mov (.c (.bool false)))])
 (.seq (.region [Ob 3 (.mov (.t 0)),Ob 4 (.call 55 [(.t 3), (Ci 0), (Ci 9999)]),Ob 2 (.mov (.t 4))])
 (.ret))
def r50 : List Res := [.t 2]
def a50 : AFn := ⟨1, c50, r50,.v⟩
def c51 : ACode := .seq (.region [Ob 4 (.mov (.c (.sl [] .tight)))])
 (.seq (.seq (.region [Ob 9 (.mov (.t 1)),Ob 10 (.bin .lss (.t 9) (Ci 0))])
 (.cond (.t 10) (.region [Ob 11 (.bad),On (.bad)])
 (.skip)))
 (.seq (.region [Ob 13 (.mov (.t 0)),Ob 14 (.len (.t 13)),Ob 15 (.conv .u64 (.t 14)),Ob 16 (.mov (.t 1)),Ob 17 (.conv .u64 (.t 16)),Ob 18 (.call 68 [(.t 15), (.t 17)]),Ob 12 (.mov (.t 18)),Ob 19 (.ext (.t 12) 0),Ob 20 (.ext (.t 12) 1),Ob 5 (.mov (.t 19)),Ob 6 (.mov (.t 20))])
 (.seq (.seq (.region [Ob 21 (.mov (.t 5)),Ob 22 (.bin .gtr (.t 21) (.c (.int .u64 0))),Ob 23 (.mov (.t 22)),Og 24 23 false (.mov (.t 6)),Og 25 23 false (.bin .gtr (.t 24) (.c (.int .u64 9223372036854775807))),Ob 26 (.pick (.t 23) (.c (.bool true)) (.t 25))])
 (.cond (.t 26) (.region [Ob 27 (.bad),On (.bad)])
 (.skip)))
 (.seq (.region [Ob 28 (.mov (.t 6)),Ob 29 (.conv .i64 (.t 28)),Ob 30 (.make (.int .i64 0) 3 1 8 (.t 29) (.t 29)),Ob 7 (.mov (.t 30))])
 (.seq (.region [Ob 31 (.mov (.t 7)),Ob 32 (.mov (.t 0)),Ob 33 (.cpy (.t 31) (.t 32) 1),Ob 8 (.mov (.t 33))])
 (.seq (.block 0 (.loop (.seq (.seq (.region [Ob 34 (.mov (.t 8)),Ob 35 (.mov (.t 7)),Ob 36 (.len (.t 35)),Ob 37 (.bin .lss (.t 34) (.t 36))])
 (.cond (.t 37) (.skip)
 (.exit 0)))
 (.block 1 (.region [Ob 38 (.mov (.t 8)),Ob 39 (.mov (.t 7)),Ob 40 (.mov (.t 8)),Ob 41 (.slice (.t 39) (some (.t 40)) none 1),Ob 42 (.mov (.t 7)),Ob 43 (.mov (.t 8)),Ob 44 (.slice (.t 42) none (some (.t 43)) 1),Ob 45 (.cpy (.t 41) (.t 44) 1),Ob 46 (.bin .add (.t 38) (.t 45)),Ob 8 (.mov (.t 46))])))))
 (.seq (.region [Ob 47 (.mov (.t 7)),Ob 4 (.mov (.t 47))])
 (.ret))))))))
def r51 : List Res := [.t 4]
def a51 : AFn := ⟨2, c51, r51,.o⟩
def c52 : ACode := .seq (.region [Ob 2 (.mov (.c (.sl [] .tight)))])
 (.seq (.region [Ob 3 (.mov (.t 0)),Ob 4 (.call 69 [(.t 3)]),Ob 0 (.mov (.t 4))])
 (.seq (.region [Ob 5 (.mov (.t 0)),Ob 6 (.call 70 [(.t 5), (.c (.fn 71 [] []))])])
 (.seq (.region [Ob 7 (.mov (.t 0)),Ob 8 (.call 74 [(.t 7)]),Ob 2 (.mov (.t 8))])
 (.ret))))
def r52 : List Res := [.t 2]
def a52 : AFn := ⟨1, c52, r52,.v⟩
def c53 : ACode := .seq (.region [Ob 3 (.box (.t 1) 5)])
 (.seq (.region [Ob 4 (.mov (.t 0)),Ob 5 (.addr (.t 3) 1),Ob 6 (.load (.t 5) none),Ob 7 (.call 54 [(.t 4), (.t 6)])])
 (.seq (.region [Ob 8 (.addr (.t 3) 2),Ob 9 (.load (.t 8) none)])
 (.block 0 (.seq (.region [Ob 11 (.bin .eql (.t 9) (Ci 1)),Ob 10 (.mov (.t 11))])
 (.cond (.t 10) (.region [Ob 12 (.mov (.t 0)),Ob 13 (.load (.t 3) (some 5)),Ob 14 (.call 75 [(.t 12), (.t 13)])])
 (.seq (.region [Ob 16 (.bin .eql (.t 9) (Ci 2)),Ob 15 (.mov (.t 16))])
 (.cond (.t 15) (.region [Ob 17 (.mov (.t 0)),Ob 18 (.addr (.t 3) 3),Ob 19 (.load (.t 18) none),Ob 20 (.call 76 [(.t 17), (.t 19)])])
 (.seq (.region [Ob 22 (.bin .eql (.t 9) (Ci 3)),Ob 21 (.mov (.t 22))])
 (.cond (.t 21) (.region [Ob 23 (.mov (.t 0)),Ob 24 (.addr (.t 3) 3),Ob 25 (.load (.t 24) none),Ob 26 (.call 77 [(.t 23), (.t 25)])])
 (.skip))))))))))
def r53 : List Res := []
def a53 : AFn := ⟨2, c53, r53,.r⟩
def c54 : ACode := .rngm (.t 9) 10 11 12 13 [Ob 6 (.mov (.t 0)), Ob 7 (.addr (.t 6) 0), Ob 8 (.addr (.t 7) 3), Ob 9 (.load (.t 8) none)] [Ob 14 (.ext (.t 13) 1), Ob 5 (.mov (.t 14))] 0 1 (.seq (.region [Ob 15 (.mov (.t 5)),Ob 16 (.addr (.t 15) 0),Ob 17 (.addr (.t 16) 0),Ob 18 (.addr (.t 17) 0),Ob 19 (.load (.t 18) none),Ob 20 (.bin .eql (.t 19) (Ci 2)),Ob 21 (.mov (.t 20)),Og 22 21 true (.mov (.t 5)),Og 23 21 true (.addr (.t 22) 0),Og 24 21 true (.addr (.t 23) 4),Og 25 21 true (.load (.t 24) none),Og 26 21 true (.mov (.t 0)),Og 27 21 true (.addr (.t 26) 0),Og 28 21 true (.addr (.t 27) 0),Og 29 21 true (.addr (.t 28) 1),Og 30 21 true (.load (.t 29) none),Og 31 21 true (.bin .add (.t 25) (.t 30)),Og 32 21 true (.mov (.t 1)),Og 33 21 true (.bin .leq (.t 31) (.t 32)),Ob 34 (.pick (.t 21) (.t 33) (.c (.bool false)))])
 (.cond (.t 34) (.region [Ob 35 (.mov (.t 0)),Ob 36 (.mov (.t 5)),Ob 37 (.call 78 [(.t 35), (.t 36), (Ci 4)])])
 (.skip))) [5, 14, 15, 16, 17, 18, 19, 20, 21, 22, 23, 24, 25, 26, 27, 28, 29, 30, 31, 32, 33, 34, 35, 36, 37]
def r54 : List Res := []
def a54 : AFn := ⟨2, c54, r54,.r⟩
def c55 : ACode := .seq (.region [Ob 6 (.mov (.c (.bool false)))])
 (.seq (.region [Ob 7 (.mov (.t 1)),Ob 8 (.mov (.t 0)),Ob 9 (.bin .leq (.t 7) (.t 8)),Ob 10 (.mov (.t 9)),Og 11 10 true (.mov (.t 0)),Og 12 10 true (.mov (.t 2)),Og 13 10 true (.bin .leq (.t 11) (.t 12)),Ob 14 (.pick (.t 10) (.t 13) (.c (.bool false))),Ob 6 (.mov (.t 14))])
 (.ret))
def r55 : List Res := [.t 6]
def a55 : AFn := ⟨3, c55, r55,.v⟩
def c56 : ACode := .seq (.region [Ob 8 (.mov (.c (.bool true)))])
 (.seq (.region [Ob 9 (.mov (.c (.bool true)))])
 (.block 0 (.loop (.block 1 (.seq (.region [Ob 19 (.mov (.t 2)),Ob 20 (.mov (.t 1)),Ob 21 (.bin .sub (.t 19) (.t 20)),Ob 10 (.mov (.t 21))])
 (.seq (.seq (.region [Ob 22 (.mov (.t 10)),Ob 23 (.bin .leq (.t 22) (Ci 12))])
 (.cond (.t 23) (.seq (.region [Ob 24 (.mov (.t 0)),Ob 25 (.mov (.t 1)),Ob 26 (.mov (.t 2)),Ob 27 (.call 79 [(.t 24), (.t 25), (.t 26)])])
 (.ret))
 (.skip)))
 (.seq (.seq (.region [Ob 28 (.mov (.t 3)),Ob 29 (.bin .eql (.t 28) (Ci 0))])
 (.cond (.t 29) (.seq (.region [Ob 30 (.mov (.t 0)),Ob 31 (.mov (.t 1)),Ob 32 (.mov (.t 2)),Ob 33 (.call 80 [(.t 30), (.t 31), (.t 32)])])
 (.ret))
 (.skip)))
 (.seq (.seq (.region [Ob 34 (.mov (.t 8)),Ob 35 (.not (.t 34))])
 (.cond (.t 35) (.seq (.region [Ob 36 (.mov (.t 0)),Ob 37 (.mov (.t 1)),Ob 38 (.mov (.t 2)),Ob 39 (.call 81 [(.t 36), (.t 37), (.t 38)])])
 (.region [Ob 40 (.mov (.t 3)),Ob 41 (.bin .sub (.t 40) (Ci 1)),Ob 3 (.mov (.t 41))]))
 (.skip)))
 (.seq (.region [Ob 43 (.mov (.t 0)),Ob 44 (.mov (.t 1)),Ob 45 (.mov (.t 2)),Ob 46 (.call 82 [(.t 43), (.t 44), (.t 45)]),Ob 42 (.mov (.t 46)),Ob 47 (.ext (.t 42) 0),Ob 48 (.ext (.t 42) 1),Ob 11 (.mov (.t 47)),Ob 12 (.mov (.t 48))])
 (.seq (.seq (.region [Ob 49 (.mov (.t 12)),Ob 50 (.bin .eql (.t 49) (Ci 2))])
 (.cond (.t 50) (.seq (.region [Ob 51 (.mov (.t 0)),Ob 52 (.mov (.t 1)),Ob 53 (.mov (.t 2)),Ob 54 (.call 83 [(.t 51), (.t 52), (.t 53)])])
 (.seq (.region [Ob 55 (.mov (.t 2)),Ob 56 (.bin .sub (.t 55) (Ci 1)),Ob 57 (.mov (.t 11)),Ob 58 (.mov (.t 1)),Ob 59 (.bin .sub (.t 57) (.t 58)),Ob 60 (.bin .sub (.t 56) (.t 59)),Ob 11 (.mov (.t 60))])
 (.region [Ob 12 (.mov (Ci 1))])))
 (.skip)))
 (.seq (.seq (.region [Ob 61 (.mov (.t 8)),Ob 62 (.mov (.t 61)),Og 63 62 true (.mov (.t 9)),Ob 64 (.pick (.t 62) (.t 63) (.c (.bool false))),Ob 65 (.mov (.t 64)),Og 66 65 true (.mov (.t 12)),Og 67 65 true (.bin .eql (.t 66) (Ci 1)),Ob 68 (.pick (.t 65) (.t 67) (.c (.bool false)))])
 (.cond (.t 68) (.seq (.region [Ob 69 (.mov (.t 0)),Ob 70 (.mov (.t 1)),Ob 71 (.mov (.t 2)),Ob 72 (.call 84 [(.t 69), (.t 70), (.t 71)])])
 (.cond (.t 72) (.ret)
 (.skip)))
 (.skip)))
 (.seq (.seq (.region [Ob 73 (.mov (.t 1)),Ob 74 (.bin .gtr (.t 73) (Ci 0)),Ob 75 (.mov (.t 74)),Og 76 75 true (.mov (.t 0)),Og 77 75 true (.mov (.t 1)),Og 78 75 true (.bin .sub (.t 77) (Ci 1)),Og 79 75 true (.idx (.t 76) (.t 78) 1),Og 80 75 true (.load (.t 79) none),Og 81 75 true (.mov (.t 0)),Og 82 75 true (.mov (.t 11)),Og 83 75 true (.idx (.t 81) (.t 82) 1),Og 84 75 true (.load (.t 83) none),Og 85 75 true (.call 85 [(.t 80), (.t 84)]),Og 86 75 true (.not (.t 85)),Ob 87 (.pick (.t 75) (.t 86) (.c (.bool false)))])
 (.cond (.t 87) (.seq (.region [Ob 88 (.mov (.t 0)),Ob 89 (.mov (.t 1)),Ob 90 (.mov (.t 2)),Ob 91 (.mov (.t 11)),Ob 92 (.call 86 [(.t 88), (.t 89), (.t 90), (.t 91)]),Ob 13 (.mov (.t 92))])
 (.seq (.region [Ob 93 (.mov (.t 13)),Ob 1 (.mov (.t 93))])
 (.exit 1)))
 (.skip)))
 (.seq (.region [Ob 95 (.mov (.t 0)),Ob 96 (.mov (.t 1)),Ob 97 (.mov (.t 2)),Ob 98 (.mov (.t 11)),Ob 99 (.call 87 [(.t 95), (.t 96), (.t 97), (.t 98)]),Ob 94 (.mov (.t 99)),Ob 100 (.ext (.t 94) 0),Ob 101 (.ext (.t 94) 1),Ob 14 (.mov (.t 100)),Ob 15 (.mov (.t 101))])
 (.seq (.region [Ob 102 (.mov (.t 15)),Ob 9 (.mov (.t 102))])
 (.seq (.region [Ob 103 (.mov (.t 14)),Ob 104 (.mov (.t 1)),Ob 105 (.bin .sub (.t 103) (.t 104)),Ob 106 (.mov (.t 2)),Ob 107 (.mov (.t 14)),Ob 108 (.bin .sub (.t 106) (.t 107)),Ob 16 (.mov (.t 105)),Ob 17 (.mov (.t 108))])
 (.seq (.region [Ob 109 (.mov (.t 10)),Ob 110 (.bin .quo (.t 109) (Ci 8)),Ob 18 (.mov (.t 110))])
 (.seq (.region [Ob 111 (.mov (.t 16)),Ob 112 (.mov (.t 17)),Ob 113 (.bin .lss (.t 111) (.t 112))])
 (.cond (.t 113) (.seq (.region [Ob 114 (.mov (.t 16)),Ob 115 (.mov (.t 18)),Ob 116 (.bin .geq (.t 114) (.t 115)),Ob 8 (.mov (.t 116))])
 (.seq (.region [Ob 117 (.mov (.t 0)),Ob 118 (.mov (.t 1)),Ob 119 (.mov (.t 14)),Ob 120 (.mov (.t 3)),Ob 121 (.call 56 [(.t 117), (.t 118), (.t 119), (.t 120)])])
 (.region [Ob 122 (.mov (.t 14)),Ob 123 (.bin .add (.t 122) (Ci 1)),Ob 1 (.mov (.t 123))])))
 (.seq (.region [Ob 124 (.mov (.t 17)),Ob 125 (.mov (.t 18)),Ob 126 (.bin .geq (.t 124) (.t 125)),Ob 8 (.mov (.t 126))])
 (.seq (.region [Ob 127 (.mov (.t 0)),Ob 128 (.mov (.t 14)),Ob 129 (.bin .add (.t 128) (Ci 1)),Ob 130 (.mov (.t 2)),Ob 131 (.mov (.t 3)),Ob 132 (.call 56 [(.t 127), (.t 129), (.t 130), (.t 131)])])
 (.region [Ob 133 (.mov (.t 14)),Ob 2 (.mov (.t 133))])))))))))))))))))))))
def r56 : List Res := []
def a56 : AFn := ⟨4, c56, r56,.r⟩
def c57 : ACode := Srt.bitsLenC 88 89
def r57 : List Res := [.t 2]
def a57 : AFn := ⟨1, c57, r57,.v⟩
def c58 : ACode := .seq (.region [Ob 2 (.box (.t 0) 1),Ob 3 (.box (.t 1) 1),Ob 4 (.mov (.c .nilf))])
 (.seq (.region [Ob 5 (.clo 90 [] [(.t 2), (.t 3)]),Ob 4 (.mov (.t 5))])
 (.ret))
def r58 : List Res := [.t 4]
def a58 : AFn := ⟨2, c58, r58,.r⟩
def c59 : ACode := .seq (.region [Ob 3 (.box (.t 0) 1),Ob 6 (.mov (.c (.bool false)))])
 (.seq (.region [Ob 10 (.clo 91 [] [(.t 3)]),Ob 7 (.mov (.t 10))])
 (.seq (.region [Ob 11 (.mov (.t 1)),Ob 12 (.bin .sub (.t 11) (Ci 1)),Ob 13 (.mov (.t 1)),Ob 14 (.mov (.t 2)),Ob 15 (.bin .add (.t 13) (.t 14)),Ob 8 (.mov (.t 12)),Ob 9 (.mov (.t 15))])
 (.seq (.region [Ob 16 (.mov (.t 7)),Ob 17 (.mov (.t 8)),Ob 18 (.callv (.t 16) [(.t 17)]),Ob 19 (.mov (.t 18)),Og 20 19 true (.mov (.t 7)),Og 21 19 true (.mov (.t 8)),Og 22 19 true (.bin .sub (.t 21) (Ci 1)),Og 23 19 true (.callv (.t 20) [(.t 22)]),Og 24 19 true (.not (.t 23)),Ob 25 (.pick (.t 19) (.t 24) (.c (.bool false))),Ob 26 (.mov (.t 25)),Og 27 26 false (.mov (.t 7)),Og 28 26 false (.mov (.t 9)),Og 29 26 false (.callv (.t 27) [(.t 28)]),Og 30 26 false (.mov (.t 29)),Og 31 30 true (.mov (.t 7)),Og 32 30 true (.mov (.t 9)),Og 33 30 true (.bin .add (.t 32) (Ci 1)),Og 34 30 true (.callv (.t 31) [(.t 33)]),Og 35 30 true (.not (.t 34)),Og 36 26 false (.pick (.t 30) (.t 35) (.c (.bool false))),Ob 37 (.pick (.t 26) (.c (.bool true)) (.t 36)),Ob 6 (.mov (.t 37))])
 (.ret))))
def r59 : List Res := [.t 6]
def a59 : AFn := ⟨3, c59, r59,.v⟩
def c60 : ACode := .seq (.region [Ob 4 (.mov (.c (.bool false)))])
 (.seq (.region [Ob 5 (.mov (.t 0)),Ob 6 (.mov (.t 1)),Ob 7 (.call 92 [(.t 5), (.t 6)]),Ob 8 (.bin .geq (.t 7) (Ci 0)),Ob 4 (.mov (.t 8))])
 (.ret))
def r60 : List Res := [.t 4]
def a60 : AFn := ⟨2, c60, r60,.v⟩
def c61 : ACode := .seq (.region [Ob 3 (.mov (.c (.bool false)))])
 (.seq (.region [Ob 4 (.load (.t 1) none),Ob 5 (.mov (.t 0)),Ob 6 (.callv (.t 4) [(.t 5)]),Ob 7 (.not (.t 6)),Ob 3 (.mov (.t 7))])
 (.ret))
def r61 : List Res := [.t 3]
def a61 : AFn := ⟨2, c61, r61,.v⟩
def c66 : ACode := .seq (.region [Ob 2 (.mov (.c (.bool false)))])
 (.seq (.region [Ob 3 (.mov (.t 0)),Ob 4 (.len (.t 3)),Ob 5 (.bin .leq (.t 4) (Ci 40)),Ob 6 (.mov (.t 5)),Og 7 6 true (.mov (.t 0)),Og 8 6 true (.call 93 [(.t 7), (.c (.fn 94 [] []))]),Ob 9 (.pick (.t 6) (.t 8) (.c (.bool false))),Ob 2 (.mov (.t 9))])
 (.ret))
def r66 : List Res := [.t 2]
def a66 : AFn := ⟨1, c66, r66,.v⟩
def c67 : ACode := .seq (.region [Ob 2 (.mov (.c (.bool false)))])
 (.seq (.region [Ob 8 (.mkmap .i),Ob 3 (.mov (.t 8))])
 (.seq (.seq (.region [Ob 9 (.mov (.t 0)),Ob 10 (.len (.t 9)),Ob 11 (.mov (Ci 0))])
 (.block 0 (.loop (.seq (.region [Ob 12 (.bin .lss (.t 11) (.t 10))])
 (.seq (.cond (.t 12) (.skip)
 (.exit 0))
 (.seq (.block 1 (.seq (.region [Ob 13 (.idx (.t 9) (.t 11) 5),Ob 14 (.load (.t 13) (some 5)),Ob 5 (.new (.agg [(.int .i64 0), (.int .i64 0), (.int .i64 0), (.int .i64 0), (.int .i64 0)]) 5),On (.store (.t 5) (.t 14) 5)])
 (.seq (.seq (.region [Ob 16 (.mov (.t 3)),Ob 17 (.addr (.t 5) 0),Ob 18 (.load (.t 17) none),Ob 19 (.mget .i (.agg [(.int .i64 0), (.int .i64 0), (.int .i64 0), (.int .i64 0), (.int .i64 0)]) true (.t 16) (.t 18)),Ob 15 (.mov (.t 19)),Ob 20 (.ext (.t 15) 0),Ob 21 (.ext (.t 15) 1),Ob 6 (.new (.agg [(.int .i64 0), (.int .i64 0), (.int .i64 0), (.int .i64 0), (.int .i64 0)]) 5),On (.store (.t 6) (.t 20) 5),Ob 7 (.mov (.t 21))])
 (.seq (.region [Ob 22 (.mov (.t 7)),Ob 23 (.mov (.t 22)),Og 24 23 true (.load (.t 5) (some 5)),Og 25 23 true (.load (.t 6) (some 5)),Og 26 23 true (.eqv true true [.i,.i,.i,.i,.i] (.t 24) (.t 25)),Ob 27 (.pick (.t 23) (.t 26) (.c (.bool false)))])
 (.cond (.t 27) (.seq (.region [Ob 2 (.mov (.c (.bool true)))])
 (.ret))
 (.skip))))
 (.region [Ob 28 (.mov (.t 3)),Ob 29 (.addr (.t 5) 0),Ob 30 (.load (.t 29) none),Ob 31 (.load (.t 5) (some 5)),On (.mput .i (.t 28) (.t 30) (.t 31))]))))
 (.region [Ob 32 (.bin .add (.t 11) (Ci 1)),Ob 11 (.mov (.t 32))])))))))
 (.seq (.region [Ob 2 (.mov (.c (.bool false)))])
 (.ret))))
def r67 : List Res := [.t 2]
def a67 : AFn := ⟨1, c67, r67,.v⟩
def c68 : ACode := .seq (.region [Ob 4 (.mov (.c (.int .u64 0))),Ob 5 (.mov (.c (.int .u64 0)))])
 (.seq (.cond (.c (.bool false)) (.seq (.region [Ob 11 (.mov (.t 0)),Ob 12 (.conv .u32 (.t 11)),Ob 13 (.mov (.t 1)),Ob 14 (.conv .u32 (.t 13)),Ob 15 (.call 95 [(.t 12), (.t 14)]),Ob 10 (.mov (.t 15)),Ob 16 (.ext (.t 10) 0),Ob 17 (.ext (.t 10) 1),Ob 6 (.mov (.t 16)),Ob 7 (.mov (.t 17))])
 (.seq (.region [Ob 18 (.mov (.t 6)),Ob 19 (.conv .u64 (.t 18)),Ob 20 (.mov (.t 7)),Ob 21 (.conv .u64 (.t 20)),Ob 4 (.mov (.t 19)),Ob 5 (.mov (.t 21))])
 (.ret)))
 (.skip))
 (.seq (.region [Ob 23 (.mov (.t 0)),Ob 24 (.mov (.t 1)),Ob 25 (.call 96 [(.t 23), (.t 24)]),Ob 22 (.mov (.t 25)),Ob 26 (.ext (.t 22) 0),Ob 27 (.ext (.t 22) 1),Ob 8 (.mov (.t 26)),Ob 9 (.mov (.t 27))])
 (.seq (.region [Ob 28 (.mov (.t 8)),Ob 29 (.mov (.t 9)),Ob 4 (.mov (.t 28)),Ob 5 (.mov (.t 29))])
 (.ret))))
def r68 : List Res := [.t 4,.t 5]
def a68 : AFn := ⟨2, c68, r68,.v⟩
def c69 : ACode := .seq (.region [Ob 2 (.mov (.c (.sl [] .tight)))])
 (.nilq [Ob 3 (.mov (.t 0))] (.t 3) 4 (.seq (.cond (.t 4) (.seq (.region [Ob 2 (.mov (.c (.sl [] .tight)))])
 (.ret))
 (.skip))
 (.seq (.region [Ob 5 (.lit false 44 5 []),Ob 6 (.mov (.t 0)),Ob 7 (.app0 (.t 5) (.t 6) 44 5 40),Ob 2 (.mov (.t 7))])
 (.ret))) [3, 4, 5, 6, 7])
def r69 : List Res := [.t 2]
def a69 : AFn := ⟨1, c69, r69,.o⟩
def c70 : ACode := .seq (.region [Ob 5 (.mov (.t 0)),Ob 6 (.len (.t 5)),Ob 4 (.mov (.t 6))])
 (.region [Ob 7 (.mov (.t 0)),Ob 8 (.mov (.t 4)),Ob 9 (.mov (.t 4)),Ob 10 (.conv .u64 (.t 9)),Ob 11 (.call 57 [(.t 10)]),Ob 12 (.mov (.t 1)),Ob 13 (.call 97 [(.t 7), (Ci 0), (.t 8), (.t 11), (.t 12)])])
def r70 : List Res := []
def a70 : AFn := ⟨2, c70, r70,.r⟩
def c71 : ACode := .seq (.region [Ob 2 (.box (.t 0) 5),Ob 3 (.box (.t 1) 5),Ob 4 (.mov (Ci 0))])
 (.seq (.region [Ob 5 (.addr (.t 2) 1),Ob 6 (.load (.t 5) none),Ob 7 (.addr (.t 3) 1),Ob 8 (.load (.t 7) none),Ob 9 (.call 73 [(.t 6), (.t 8)]),Ob 10 (.addr (.t 2) 0),Ob 11 (.load (.t 10) none),Ob 12 (.addr (.t 3) 0),Ob 13 (.load (.t 12) none),Ob 14 (.call 73 [(.t 11), (.t 13)]),Ob 15 (.lit false 3 1 [(.t 9), (.t 14)]),Ob 16 (.call 72 [(.t 15)]),Ob 4 (.mov (.t 16))])
 (.ret))
def r71 : List Res := [.t 4]
def a71 : AFn := ⟨2, c71, r71,.v⟩
def c72 : ACode := .seq (.region [Ob 2 (.mov (Ci 0))])
 (.seq (.region [Ob 3 (.mov (Ci 0))])
 (.seq (.seq (.region [Ob 6 (.mov (.t 0)),Ob 7 (.len (.t 6)),Ob 8 (.mov (Ci 0))])
 (.block 0 (.loop (.seq (.region [Ob 9 (.bin .lss (.t 8) (.t 7))])
 (.seq (.cond (.t 9) (.skip)
 (.exit 0))
 (.seq (.block 1 (.seq (.region [Ob 10 (.idx (.t 6) (.t 8) 1),Ob 11 (.load (.t 10) none),Ob 5 (.mov (.t 11))])
 (.seq (.region [Ob 12 (.mov (.t 5)),Ob 13 (.mov (.t 3)),Ob 14 (.bin .neq (.t 12) (.t 13))])
 (.cond (.t 14) (.seq (.region [Ob 15 (.mov (.t 5)),Ob 2 (.mov (.t 15))])
 (.ret))
 (.skip)))))
 (.region [Ob 16 (.bin .add (.t 8) (Ci 1)),Ob 8 (.mov (.t 16))])))))))
 (.seq (.region [Ob 17 (.mov (.t 3)),Ob 2 (.mov (.t 17))])
 (.ret))))
def r72 : List Res := [.t 2]
def a72 : AFn := ⟨1, c72, r72,.v⟩
def c73 : ACode := .seq (.region [Ob 4 (.mov (Ci 0))])
 (.seq (.region [Ob 7 (.mov (.t 0)),Ob 8 (.call 98 [(.t 7)]),Ob 5 (.mov (.t 8))])
 (.seq (.region [Ob 9 (.mov (.t 1)),Ob 10 (.call 98 [(.t 9)]),Ob 6 (.mov (.t 10))])
 (.seq (.seq (.region [Ob 11 (.mov (.t 5))])
 (.cond (.t 11) (.seq (.seq (.region [Ob 12 (.mov (.t 6))])
 (.cond (.t 12) (.seq (.region [Ob 4 (.mov (Ci 0))])
 (.ret))
 (.skip)))
 (.seq (.region [Ob 4 (.mov (Ci (-1)))])
 (.ret)))
 (.skip)))
 (.seq (.seq (.region [Ob 13 (.mov (.t 6))])
 (.cond (.t 13) (.seq (.region [Ob 4 (.mov (Ci 1))])
 (.ret))
 (.skip)))
 (.seq (.seq (.region [Ob 14 (.mov (.t 0)),Ob 15 (.mov (.t 1)),Ob 16 (.bin .lss (.t 14) (.t 15))])
 (.cond (.t 16) (.seq (.region [Ob 4 (.mov (Ci (-1)))])
 (.ret))
 (.skip)))
 (.seq (.seq (.region [Ob 17 (.mov (.t 0)),Ob 18 (.mov (.t 1)),Ob 19 (.bin .gtr (.t 17) (.t 18))])
 (.cond (.t 19) (.seq (.region [Ob 4 (.mov (Ci 1))])
 (.ret))
 (.skip)))
 (.seq (.region [Ob 4 (.mov (Ci 0))])
 (.ret))))))))
def r73 : List Res := [.t 4]
def a73 : AFn := ⟨2, c73, r73,.v⟩
def c74 : ACode := .seq (.region [Ob 2 (.mov (.c (.sl [] .tight)))])
 (.seq (.seq (.region [Ob 6 (.mov (.t 0)),Ob 7 (.len (.t 6)),Ob 8 (.bin .lss (.t 7) (Ci 2))])
 (.cond (.t 8) (.seq (.region [Ob 9 (.mov (.t 0)),Ob 2 (.mov (.t 9))])
 (.ret))
 (.skip)))
 (.seq (.seq (.region [Ob 3 (.mov (Ci 1))])
 (.block 0 (.loop (.seq (.seq (.region [Ob 10 (.mov (.t 3)),Ob 11 (.mov (.t 0)),Ob 12 (.len (.t 11)),Ob 13 (.bin .lss (.t 10) (.t 12))])
 (.cond (.t 13) (.skip)
 (.exit 0)))
 (.seq (.block 1 (.seq (.region [Ob 16 (.mov (.t 0)),Ob 17 (.mov (.t 3)),Ob 18 (.idx (.t 16) (.t 17) 5),Ob 19 (.load (.t 18) (some 5)),Ob 20 (.mov (.t 0)),Ob 21 (.mov (.t 3)),Ob 22 (.bin .sub (.t 21) (Ci 1)),Ob 23 (.idx (.t 20) (.t 22) 5),Ob 24 (.load (.t 23) (some 5)),Ob 25 (.eqv false true [.i,.i,.i,.i,.i] (.t 19) (.t 24))])
 (.cond (.t 25) (.seq (.region [Ob 26 (.mov (.t 0)),Ob 27 (.mov (.t 3)),Ob 28 (.slice (.t 26) (some (.t 27)) none 5),Ob 4 (.mov (.t 28))])
 (.seq (.seq (.region [Ob 5 (.mov (Ci 1))])
 (.block 2 (.loop (.seq (.seq (.region [Ob 29 (.mov (.t 5)),Ob 30 (.mov (.t 4)),Ob 31 (.len (.t 30)),Ob 32 (.bin .lss (.t 29) (.t 31))])
 (.cond (.t 32) (.skip)
 (.exit 2)))
 (.seq (.block 3 (.seq (.region [Ob 35 (.mov (.t 4)),Ob 36 (.mov (.t 5)),Ob 37 (.idx (.t 35) (.t 36) 5),Ob 38 (.load (.t 37) (some 5)),Ob 39 (.mov (.t 4)),Ob 40 (.mov (.t 5)),Ob 41 (.bin .sub (.t 40) (Ci 1)),Ob 42 (.idx (.t 39) (.t 41) 5),Ob 43 (.load (.t 42) (some 5)),Ob 44 (.eqv true true [.i,.i,.i,.i,.i] (.t 38) (.t 43))])
 (.cond (.t 44) (.seq (.region [Ob 45 (.mov (.t 0)),Ob 46 (.mov (.t 3)),Ob 47 (.mov (.t 4)),Ob 48 (.mov (.t 5)),Ob 49 (.idx (.t 47) (.t 48) 5),Ob 50 (.load (.t 49) (some 5)),Ob 51 (.idx (.t 45) (.t 46) 5),On (.store (.t 51) (.t 50) 5)])
 (.region [Ob 52 (.mov (.t 3)),Ob 53 (.bin .add (.t 52) (Ci 1)),Ob 3 (.mov (.t 53))]))
 (.skip))))
 (.region [Ob 33 (.mov (.t 5)),Ob 34 (.bin .add (.t 33) (Ci 1)),Ob 5 (.mov (.t 34))]))))))
 (.seq (.region [Ob 54 (.mov (.t 0)),Ob 55 (.mov (.t 3)),Ob 56 (.slice (.t 54) (some (.t 55)) none 5),On (.clr (.t 56) (.agg [(.int .i64 0), (.int .i64 0), (.int .i64 0), (.int .i64 0), (.int .i64 0)]) 5)])
 (.seq (.region [Ob 57 (.mov (.t 0)),Ob 58 (.mov (.t 3)),Ob 59 (.slice (.t 57) none (some (.t 58)) 5),Ob 2 (.mov (.t 59))])
 (.ret)))))
 (.skip))))
 (.region [Ob 14 (.mov (.t 3)),Ob 15 (.bin .add (.t 14) (Ci 1)),Ob 3 (.mov (.t 15))]))))))
 (.seq (.region [Ob 60 (.mov (.t 0)),Ob 2 (.mov (.t 60))])
 (.ret))))
def r74 : List Res := [.t 2]
def a74 : AFn := ⟨1, c74, r74,.r⟩
def c75 : ACode := .seq (.region [Ob 3 (.box (.t 1) 5)])
 (.seq (.seq (.region [Ob 11 (.mov (.t 0)),Ob 12 (.addr (.t 11) 0),Ob 13 (.addr (.t 12) 3),Ob 14 (.load (.t 13) none),Ob 15 (.addr (.t 3) 3),Ob 16 (.load (.t 15) none),Ob 17 (.mget .i .nilp true (.t 14) (.t 16)),Ob 10 (.mov (.t 17)),Ob 18 (.ext (.t 10) 0),Ob 19 (.ext (.t 10) 1),Ob 4 (.mov (.t 18)),Ob 5 (.mov (.t 19))])
 (.seq (.region [Ob 20 (.mov (.t 5))])
 (.cond (.t 20) (.ret)
 (.skip))))
 (.seq (.region [Ob 21 (.addr (.t 3) 4),Ob 22 (.load (.t 21) none),Ob 23 (.build [(.int .i64 0), (.int .i64 0), (.int .i64 0), (.int .i64 0)] [(0, 1, (Ci 1)), (1, 1, (Ci (-1))), (2, 1, (Ci (-1))), (3, 1, (.t 22))]),Ob 24 (.addr (.t 3) 1),Ob 25 (.load (.t 24) none),Ob 26 (.build [(.int .i64 0), (.int .i64 0), (.int .i64 0), (.int .i64 0), (.int .i64 0)] [(0, 4, (.t 23)), (4, 1, (.t 25))]),Ob 27 (.box (.t 26) 5),Ob 6 (.mov (.t 27))])
 (.seq (.region [Ob 28 (.mov (.t 0)),Ob 29 (.addr (.t 28) 0),Ob 30 (.addr (.t 29) 3),Ob 31 (.load (.t 30) none),Ob 32 (.addr (.t 3) 3),Ob 33 (.load (.t 32) none),Ob 34 (.mov (.t 6)),On (.mput .i (.t 31) (.t 33) (.t 34))])
 (.seq (.region [Ob 36 (.mov (.t 0)),Ob 37 (.addr (.t 3) 4),Ob 38 (.load (.t 37) none),Ob 39 (.call 40 [(.t 36), (.t 38)]),Ob 35 (.mov (.t 39)),Ob 40 (.ext (.t 35) 0),Ob 41 (.ext (.t 35) 1),Ob 42 (.ext (.t 35) 2),Ob 7 (.mov (.t 40)),Ob 8 (.mov (.t 41)),Ob 9 (.mov (.t 42))])
 (.seq (.region [Ob 43 (.mov (.t 9))])
 (.cond (.t 43) (.seq (.region [Ob 44 (.mov (.t 6)),Ob 45 (.mov (.t 6)),Ob 46 (.mov (.t 6)),Ob 47 (.mov (.t 7)),Ob 48 (.mov (.t 8)),Ob 49 (.addr (.t 44) 0),Ob 50 (.addr (.t 49) 0),Ob 51 (.addr (.t 50) 0),On (.store (.t 51) (Ci 2) 1),Ob 52 (.addr (.t 45) 0),Ob 53 (.addr (.t 52) 0),Ob 54 (.addr (.t 53) 1),On (.store (.t 54) (.t 47) 1),Ob 55 (.addr (.t 46) 0),Ob 56 (.addr (.t 55) 0),Ob 57 (.addr (.t 56) 2),On (.store (.t 57) (.t 48) 1)])
 (.region [Ob 58 (.mov (.t 0)),Ob 59 (.mov (.t 6)),Ob 60 (.addr (.t 59) 0),Ob 61 (.addr (.t 60) 0),Ob 62 (.load (.t 61) (some 4)),Ob 63 (.addr (.t 3) 3),Ob 64 (.load (.t 63) none),Ob 65 (.call 99 [(.t 58), (.t 62), (.t 64)])]))
 (.skip)))))))
def r75 : List Res := []
def a75 : AFn := ⟨2, c75, r75,.r⟩
def c76 : ACode := .seq (.region [Ob 7 (.mov (.t 0)),Ob 8 (.addr (.t 7) 0),Ob 9 (.addr (.t 8) 3),Ob 10 (.load (.t 9) none),Ob 11 (.mov (.t 1)),Ob 12 (.mget .i .nilp true (.t 10) (.t 11)),Ob 6 (.mov (.t 12)),Ob 13 (.ext (.t 6) 0),Ob 14 (.ext (.t 6) 1),Ob 4 (.mov (.t 13)),Ob 5 (.mov (.t 14))])
 (.seq (.seq (.region [Ob 15 (.mov (.t 5)),Ob 16 (.not (.t 15)),Ob 17 (.mov (.t 16)),Og 18 17 false (.mov (.t 4)),Og 19 17 false (.addr (.t 18) 0),Og 20 17 false (.addr (.t 19) 0),Og 21 17 false (.addr (.t 20) 0),Og 22 17 false (.load (.t 21) none),Og 23 17 false (.bin .neq (.t 22) (Ci 2)),Ob 24 (.pick (.t 17) (.c (.bool true)) (.t 23))])
 (.cond (.t 24) (.seq (.region [Ob 25 (.mov (.t 0)),Ob 26 (.mov (.t 0)),Ob 27 (.addr (.t 26) 0),Ob 28 (.addr (.t 27) 4),Ob 29 (.load (.t 28) none),Ob 30 (.mov (.t 1)),Ob 31 (.lit true 3 1 [(.t 30)]),Ob 32 (.app true (.t 29) (.t 31) 3 1 8),Ob 33 (.addr (.t 25) 0),Ob 34 (.addr (.t 33) 4),On (.store (.t 34) (.t 32) 1)])
 (.ret))
 (.skip)))
 (.region [Ob 35 (.mov (.t 4)),Ob 36 (.addr (.t 35) 0),Ob 37 (.addr (.t 36) 0),Ob 38 (.addr (.t 37) 0),On (.store (.t 38) (Ci 3) 1)]))
def r76 : List Res := []
def a76 : AFn := ⟨2, c76, r76,.r⟩
def c77 : ACode := .seq (.region [Ob 7 (.mov (.t 0)),Ob 8 (.addr (.t 7) 0),Ob 9 (.addr (.t 8) 3),Ob 10 (.load (.t 9) none),Ob 11 (.mov (.t 1)),Ob 12 (.mget .i .nilp true (.t 10) (.t 11)),Ob 6 (.mov (.t 12)),Ob 13 (.ext (.t 6) 0),Ob 14 (.ext (.t 6) 1),Ob 4 (.mov (.t 13)),Ob 5 (.mov (.t 14))])
 (.seq (.region [Ob 15 (.mov (.t 5)),Ob 16 (.mov (.t 15)),Og 17 16 true (.mov (.t 4)),Og 18 16 true (.addr (.t 17) 0),Og 19 16 true (.addr (.t 18) 0),Og 20 16 true (.addr (.t 19) 0),Og 21 16 true (.load (.t 20) none),Og 22 16 true (.bin .eql (.t 21) (Ci 2)),Og 23 16 true (.mov (.t 22)),Og 24 23 false (.mov (.t 4)),Og 25 23 false (.addr (.t 24) 0),Og 26 23 false (.addr (.t 25) 0),Og 27 23 false (.addr (.t 26) 0),Og 28 23 false (.load (.t 27) none),Og 29 23 false (.bin .eql (.t 28) (Ci 3)),Og 30 16 true (.pick (.t 23) (.c (.bool true)) (.t 29)),Ob 31 (.pick (.t 16) (.t 30) (.c (.bool false)))])
 (.cond (.t 31) (.region [Ob 32 (.mov (.t 0)),Ob 33 (.mov (.t 4)),Ob 34 (.call 78 [(.t 32), (.t 33), (Ci 5)])])
 (.skip)))
def r77 : List Res := []
def a77 : AFn := ⟨2, c77, r77,.r⟩
def c78 : ACode := .seq (.region [Ob 6 (.mov (.t 0)),Ob 7 (.mov (.t 1)),Ob 8 (.addr (.t 7) 0),Ob 9 (.addr (.t 8) 0),Ob 10 (.load (.t 9) (some 4)),Ob 11 (.call 99 [(.t 6), (.t 10), (Ci (-1))])])
 (.region [Ob 12 (.mov (.t 1)),Ob 13 (.mov (.t 1)),Ob 14 (.mov (.t 1)),Ob 15 (.mov (.t 2)),Ob 16 (.addr (.t 12) 0),Ob 17 (.addr (.t 16) 0),Ob 18 (.addr (.t 17) 0),On (.store (.t 18) (.t 15) 1),Ob 19 (.addr (.t 13) 0),Ob 20 (.addr (.t 19) 0),Ob 21 (.addr (.t 20) 1),On (.store (.t 21) (Ci (-1)) 1),Ob 22 (.addr (.t 14) 0),Ob 23 (.addr (.t 22) 0),Ob 24 (.addr (.t 23) 2),On (.store (.t 24) (Ci (-1)) 1)])
def r78 : List Res := []
def a78 : AFn := ⟨3, c78, r78,.r⟩
def c79 : ACode := .seq (.region [Ob 8 (.mov (.t 1)),Ob 9 (.bin .add (.t 8) (Ci 1)),Ob 6 (.mov (.t 9))])
 (.block 0 (.loop (.seq (.seq (.region [Ob 10 (.mov (.t 6)),Ob 11 (.mov (.t 2)),Ob 12 (.bin .lss (.t 10) (.t 11))])
 (.cond (.t 12) (.skip)
 (.exit 0)))
 (.seq (.block 1 (.seq (.region [Ob 15 (.mov (.t 6)),Ob 7 (.mov (.t 15))])
 (.block 2 (.loop (.seq (.seq (.region [Ob 16 (.mov (.t 7)),Ob 17 (.mov (.t 1)),Ob 18 (.bin .gtr (.t 16) (.t 17)),Ob 19 (.mov (.t 18)),Og 20 19 true (.mov (.t 0)),Og 21 19 true (.mov (.t 7)),Og 22 19 true (.idx (.t 20) (.t 21) 1),Og 23 19 true (.load (.t 22) none),Og 24 19 true (.mov (.t 0)),Og 25 19 true (.mov (.t 7)),Og 26 19 true (.bin .sub (.t 25) (Ci 1)),Og 27 19 true (.idx (.t 24) (.t 26) 1),Og 28 19 true (.load (.t 27) none),Og 29 19 true (.call 85 [(.t 23), (.t 28)]),Ob 30 (.pick (.t 19) (.t 29) (.c (.bool false)))])
 (.cond (.t 30) (.skip)
 (.exit 2)))
 (.seq (.block 3 (.region [Ob 33 (.mov (.t 0)),Ob 34 (.mov (.t 7)),Ob 35 (.mov (.t 0)),Ob 36 (.mov (.t 7)),Ob 37 (.bin .sub (.t 36) (Ci 1)),Ob 38 (.mov (.t 0)),Ob 39 (.mov (.t 7)),Ob 40 (.bin .sub (.t 39) (Ci 1)),Ob 41 (.idx (.t 38) (.t 40) 1),Ob 42 (.load (.t 41) none),Ob 43 (.mov (.t 0)),Ob 44 (.mov (.t 7)),Ob 45 (.idx (.t 43) (.t 44) 1),Ob 46 (.load (.t 45) none),Ob 47 (.idx (.t 33) (.t 34) 1),On (.store (.t 47) (.t 42) 1),Ob 48 (.idx (.t 35) (.t 37) 1),On (.store (.t 48) (.t 46) 1)]))
 (.region [Ob 31 (.mov (.t 7)),Ob 32 (.bin .sub (.t 31) (Ci 1)),Ob 7 (.mov (.t 32))])))))))
 (.region [Ob 13 (.mov (.t 6)),Ob 14 (.bin .add (.t 13) (Ci 1)),Ob 6 (.mov (.t 14))])))))
def r79 : List Res := []
def a79 : AFn := ⟨3, c79, r79,.r⟩
def c85 : ACode := .seq (.region [Ob 4 (.mov (.c (.bool false)))])
 (.seq (.region [Ob 5 (.mov (.t 0)),Ob 6 (.call 98 [(.t 5)]),Ob 7 (.mov (.t 6)),Og 8 7 true (.mov (.t 1)),Og 9 7 true (.call 98 [(.t 8)]),Og 10 7 true (.not (.t 9)),Ob 11 (.pick (.t 7) (.t 10) (.c (.bool false))),Ob 12 (.mov (.t 11)),Og 13 12 false (.mov (.t 0)),Og 14 12 false (.mov (.t 1)),Og 15 12 false (.bin .lss (.t 13) (.t 14)),Ob 16 (.pick (.t 12) (.c (.bool true)) (.t 15)),Ob 4 (.mov (.t 16))])
 (.ret))
def r85 : List Res := [.t 4]
def a85 : AFn := ⟨2, c85, r85,.v⟩
def c89 : ACode := Srt.len64C
def r89 : List Res := [.t 2]
def a89 : AFn := ⟨1, c89, r89,.v⟩
def c90 : ACode := .seq (.region [Ob 8 (.load (.t 1) none),Ob 9 (.addr (.t 8) 0),Ob 10 (.addr (.t 9) 2),Ob 11 (.load (.t 10) none),Ob 12 (.len (.t 11)),Ob 13 (.mov (Ci 0))])
 (.block 0 (.loop (.seq (.region [Ob 14 (.bin .lss (.t 13) (.t 12))])
 (.seq (.cond (.t 14) (.skip)
 (.exit 0))
 (.seq (.block 1 (.seq (.region [Ob 15 (.mov (.t 13)),Ob 16 (.idx (.t 11) (.t 13) 1),Ob 17 (.load (.t 16) none),Ob 4 (.mov (.t 15)),Ob 5 (.mov (.t 17))])
 (.seq (.skip)
 (.seq (.region [Ob 18 (.mov (.t 5)),Ob 19 (.len (.t 18)),Ob 20 (.load (.t 2) none),Ob 21 (.bin .sub (.t 19) (.t 20)),Ob 22 (.bin .add (.t 21) (Ci 1)),Ob 23 (.mov (Ci 0))])
 (.block 2 (.loop (.seq (.region [Ob 24 (.bin .lss (.t 23) (.t 22))])
 (.seq (.cond (.t 24) (.skip)
 (.exit 2))
 (.seq (.block 3 (.seq (.region [Ob 25 (.mov (.t 23)),Ob 6 (.mov (.t 25))])
 (.seq (.seq (.region [Ob 26 (.load (.t 2) none),Ob 27 (.mov (Ci 0))])
 (.block 4 (.loop (.seq (.region [Ob 28 (.bin .lss (.t 27) (.t 26))])
 (.seq (.cond (.t 28) (.skip)
 (.exit 4))
 (.seq (.block 5 (.seq (.region [Ob 29 (.mov (.t 27)),Ob 7 (.mov (.t 29))])
 (.seq (.region [Ob 30 (.mov (.t 5)),Ob 31 (.mov (.t 6)),Ob 32 (.mov (.t 7)),Ob 33 (.bin .add (.t 31) (.t 32)),Ob 34 (.idx (.t 30) (.t 33) 1),Ob 35 (.load (.t 34) none),Ob 36 (.bin .neq (.t 35) (Ci (-1)))])
 (.cond (.t 36) (.exit 3)
 (.skip)))))
 (.region [Ob 37 (.bin .add (.t 27) (Ci 1)),Ob 27 (.mov (.t 37))])))))))
 (.seq (.region [Ob 38 (.mov (.t 0)),Ob 39 (.mov (.t 4)),Ob 40 (.mov (.t 6)),Ob 41 (.callv (.t 38) [(.t 39), (.t 40)]),Ob 42 (.not (.t 41))])
 (.cond (.t 42) (.ret)
 (.skip))))))
 (.region [Ob 43 (.bin .add (.t 23) (Ci 1)),Ob 23 (.mov (.t 43))]))))))))))
 (.region [Ob 44 (.bin .add (.t 13) (Ci 1)),Ob 13 (.mov (.t 44))]))))))
def r90 : List Res := []
def a90 : AFn := ⟨3, c90, r90,.v⟩
def c91 : ACode := .seq (.region [Ob 3 (.mov (.c (.bool false)))])
 (.seq (.region [Ob 4 (.mov (.t 0)),Ob 5 (.bin .leq (Ci 0) (.t 4)),Ob 6 (.mov (.t 5)),Og 7 6 true (.mov (.t 0)),Og 8 6 true (.load (.t 1) none),Og 9 6 true (.len (.t 8)),Og 10 6 true (.bin .lss (.t 7) (.t 9)),Ob 11 (.pick (.t 6) (.t 10) (.c (.bool false))),Ob 12 (.mov (.t 11)),Og 13 12 true (.load (.t 1) none),Og 14 12 true (.mov (.t 0)),Og 15 12 true (.idx (.t 13) (.t 14) 1),Og 16 12 true (.load (.t 15) none),Og 17 12 true (.bin .eql (.t 16) (Ci (-1))),Ob 18 (.pick (.t 12) (.t 17) (.c (.bool false))),Ob 3 (.mov (.t 18))])
 (.ret))
def r91 : List Res := [.t 3]
def a91 : AFn := ⟨2, c91, r91,.v⟩
def c92 : ACode := .seq (.region [Ob 4 (.mov (Ci 0))])
 (.seq (.seq (.region [Ob 6 (.mov (.t 0)),Ob 7 (.len (.t 6)),Ob 8 (.mov (Ci 0))])
 (.block 0 (.loop (.seq (.region [Ob 9 (.bin .lss (.t 8) (.t 7))])
 (.seq (.cond (.t 9) (.skip)
 (.exit 0))
 (.seq (.block 1 (.seq (.region [Ob 10 (.mov (.t 8)),Ob 5 (.mov (.t 10))])
 (.seq (.region [Ob 11 (.mov (.t 1)),Ob 12 (.mov (.t 0)),Ob 13 (.mov (.t 5)),Ob 14 (.idx (.t 12) (.t 13) 1),Ob 15 (.load (.t 14) none),Ob 16 (.callv (.t 11) [(.t 15)])])
 (.cond (.t 16) (.seq (.region [Ob 17 (.mov (.t 5)),Ob 4 (.mov (.t 17))])
 (.ret))
 (.skip)))))
 (.region [Ob 18 (.bin .add (.t 8) (Ci 1)),Ob 8 (.mov (.t 18))])))))))
 (.seq (.region [Ob 4 (.mov (Ci (-1)))])
 (.ret)))
def r92 : List Res := [.t 4]
def a92 : AFn := ⟨2, c92, r92,.v⟩
def c93 : ACode := .seq (.region [Ob 3 (.box (.t 1) 1),Ob 4 (.mov (.c (.bool false)))])
 (.seq (.region [Ob 5 (.mov (.t 0)),Ob 6 (.clo 106 [] [(.t 3)]),Ob 7 (.call 105 [(.t 5), (.t 6)]),Ob 8 (.not (.t 7)),Ob 4 (.mov (.t 8))])
 (.ret))
def r93 : List Res := [.t 4]
def a93 : AFn := ⟨2, c93, r93,.v⟩
def c94 : ACode := .seq (.region [Ob 1 (.box (.t 0) 5),Ob 2 (.mov (.c (.bool false)))])
 (.seq (.region [Ob 3 (.addr (.t 1) 0),Ob 4 (.load (.t 3) none),Ob 5 (.call 35 [(.t 4)]),Ob 6 (.mov (.t 5)),Og 7 6 true (.addr (.t 1) 3),Og 8 6 true (.load (.t 7) none),Og 9 6 true (.call 35 [(.t 8)]),Ob 10 (.pick (.t 6) (.t 9) (.c (.bool false))),Ob 11 (.mov (.t 10)),Og 12 11 true (.addr (.t 1) 1),Og 13 11 true (.load (.t 12) none),Og 14 11 true (.call 50 [(.t 13)]),Ob 15 (.pick (.t 11) (.t 14) (.c (.bool false))),Ob 16 (.mov (.t 15)),Og 17 16 true (.load (.t 1) (some 5)),Og 18 16 true (.call 107 [(.t 17)]),Ob 19 (.pick (.t 16) (.t 18) (.c (.bool false))),Ob 2 (.mov (.t 19))])
 (.ret))
def r94 : List Res := [.t 2]
def a94 : AFn := ⟨1, c94, r94,.v⟩
def c95 : ACode := .seq (.region [Ob 4 (.mov (.c (.int .u32 0))),Ob 5 (.mov (.c (.int .u32 0)))])
 (.seq (.region [Ob 7 (.mov (.t 0)),Ob 8 (.conv .u64 (.t 7)),Ob 9 (.mov (.t 1)),Ob 10 (.conv .u64 (.t 9)),Ob 11 (.bin .mul (.t 8) (.t 10)),Ob 6 (.mov (.t 11))])
 (.seq (.region [Ob 12 (.mov (.t 6)),Ob 13 (.bin .shr (.t 12) (.c (.int .u64 32))),Ob 14 (.conv .u32 (.t 13)),Ob 15 (.mov (.t 6)),Ob 16 (.conv .u32 (.t 15)),Ob 4 (.mov (.t 14)),Ob 5 (.mov (.t 16))])
 (.ret)))
def r95 : List Res := [.t 4,.t 5]
def a95 : AFn := ⟨2, c95, r95,.v⟩
def c96 : ACode := .seq (.region [Ob 4 (.mov (.c (.int .u64 0))),Ob 5 (.mov (.c (.int .u64 0)))])
 (.seq (.region [Ob 14 (.mov (.t 0)),Ob 15 (.bin .and (.t 14) (.c (.int .u64 4294967295))),Ob 6 (.mov (.t 15))])
 (.seq (.region [Ob 16 (.mov (.t 0)),Ob 17 (.bin .shr (.t 16) (.c (.int .u64 32))),Ob 7 (.mov (.t 17))])
 (.seq (.region [Ob 18 (.mov (.t 1)),Ob 19 (.bin .and (.t 18) (.c (.int .u64 4294967295))),Ob 8 (.mov (.t 19))])
 (.seq (.region [Ob 20 (.mov (.t 1)),Ob 21 (.bin .shr (.t 20) (.c (.int .u64 32))),Ob 9 (.mov (.t 21))])
 (.seq (.region [Ob 22 (.mov (.t 6)),Ob 23 (.mov (.t 8)),Ob 24 (.bin .mul (.t 22) (.t 23)),Ob 10 (.mov (.t 24))])
 (.seq (.region [Ob 25 (.mov (.t 7)),Ob 26 (.mov (.t 8)),Ob 27 (.bin .mul (.t 25) (.t 26)),Ob 28 (.mov (.t 10)),Ob 29 (.bin .shr (.t 28) (.c (.int .u64 32))),Ob 30 (.bin .add (.t 27) (.t 29)),Ob 11 (.mov (.t 30))])
 (.seq (.region [Ob 31 (.mov (.t 11)),Ob 32 (.bin .and (.t 31) (.c (.int .u64 4294967295))),Ob 12 (.mov (.t 32))])
 (.seq (.region [Ob 33 (.mov (.t 11)),Ob 34 (.bin .shr (.t 33) (.c (.int .u64 32))),Ob 13 (.mov (.t 34))])
 (.seq (.region [Ob 35 (.mov (.t 12)),Ob 36 (.mov (.t 6)),Ob 37 (.mov (.t 9)),Ob 38 (.bin .mul (.t 36) (.t 37)),Ob 39 (.bin .add (.t 35) (.t 38)),Ob 12 (.mov (.t 39))])
 (.seq (.region [Ob 40 (.mov (.t 7)),Ob 41 (.mov (.t 9)),Ob 42 (.bin .mul (.t 40) (.t 41)),Ob 43 (.mov (.t 13)),Ob 44 (.bin .add (.t 42) (.t 43)),Ob 45 (.mov (.t 12)),Ob 46 (.bin .shr (.t 45) (.c (.int .u64 32))),Ob 47 (.bin .add (.t 44) (.t 46)),Ob 4 (.mov (.t 47))])
 (.seq (.region [Ob 48 (.mov (.t 0)),Ob 49 (.mov (.t 1)),Ob 50 (.bin .mul (.t 48) (.t 49)),Ob 5 (.mov (.t 50))])
 (.ret))))))))))))
def r96 : List Res := [.t 4,.t 5]
def a96 : AFn := ⟨2, c96, r96,.v⟩
def c97 : ACode := Srt.pdqsortF 5 (some 5) 110 111 109 108 113 115 114 97 112
def r97 : List Res := []
def a97 : AFn := ⟨5, c97, r97,.r⟩
def c98 : ACode := .seq (.region [Ob 2 (.mov (.c (.bool false)))])
 (.seq (.region [Ob 3 (.mov (.t 0)),Ob 4 (.mov (.t 0)),Ob 5 (.bin .neq (.t 3) (.t 4)),Ob 2 (.mov (.t 5))])
 (.ret))
def r98 : List Res := [.t 2]
def a98 : AFn := ⟨1, c98, r98,.v⟩
def c99 : ACode := .seq (.region [Ob 4 (.box (.t 1) 4)])
 (.seq (.region [Ob 8 (.mov (.t 0)),Ob 9 (.addr (.t 8) 0),Ob 10 (.addr (.t 9) 2),Ob 11 (.load (.t 10) none),Ob 12 (.addr (.t 4) 1),Ob 13 (.load (.t 12) none),Ob 14 (.idx (.t 11) (.t 13) 1),Ob 15 (.load (.t 14) none),Ob 6 (.mov (.t 15))])
 (.seq (.region [Ob 16 (.addr (.t 4) 3),Ob 17 (.load (.t 16) none),Ob 18 (.mov (Ci 0))])
 (.block 0 (.loop (.seq (.region [Ob 19 (.bin .lss (.t 18) (.t 17))])
 (.seq (.cond (.t 19) (.skip)
 (.exit 0))
 (.seq (.block 1 (.seq (.region [Ob 20 (.mov (.t 18)),Ob 7 (.mov (.t 20))])
 (.region [Ob 21 (.mov (.t 6)),Ob 22 (.addr (.t 4) 2),Ob 23 (.load (.t 22) none),Ob 24 (.mov (.t 7)),Ob 25 (.bin .add (.t 23) (.t 24)),Ob 26 (.mov (.t 2)),Ob 27 (.idx (.t 21) (.t 25) 1),On (.store (.t 27) (.t 26) 1)])))
 (.region [Ob 28 (.bin .add (.t 18) (Ci 1)),Ob 18 (.mov (.t 28))]))))))))
def r99 : List Res := []
def a99 : AFn := ⟨3, c99, r99,.r⟩
def c101 : ACode := Srt.nextPowC 57
def r101 : List Res := [.t 2]
def a101 : AFn := ⟨1, c101, r101,.v⟩
def c102 : ACode := Srt.xorNextC
def r102 : List Res := [.t 2]
def a102 : AFn := ⟨1, c102, r102,.r⟩
def c105 : ACode := .seq (.region [Ob 4 (.mov (.c (.bool false)))])
 (.seq (.region [Ob 5 (.mov (.t 0)),Ob 6 (.mov (.t 1)),Ob 7 (.call 117 [(.t 5), (.t 6)]),Ob 8 (.bin .geq (.t 7) (Ci 0)),Ob 4 (.mov (.t 8))])
 (.ret))
def r105 : List Res := [.t 4]
def a105 : AFn := ⟨2, c105, r105,.v⟩
def c106 : ACode := .seq (.region [Ob 2 (.box (.t 0) 5),Ob 3 (.mov (.c (.bool false)))])
 (.seq (.region [Ob 4 (.load (.t 1) none),Ob 5 (.load (.t 2) (some 5)),Ob 6 (.callv (.t 4) [(.t 5)]),Ob 7 (.not (.t 6)),Ob 3 (.mov (.t 7))])
 (.ret))
def r106 : List Res := [.t 3]
def a106 : AFn := ⟨2, c106, r106,.v⟩
def c107 : ACode := .seq (.region [Ob 1 (.box (.t 0) 5),Ob 2 (.mov (.c (.bool false)))])
 (.seq (.seq (.region [Ob 3 (.addr (.t 1) 2),Ob 4 (.load (.t 3) none)])
 (.block 0 (.seq (.region [Ob 6 (.bin .eql (.t 4) (Ci 1)),Ob 5 (.mov (.t 6))])
 (.cond (.t 5) (.seq (.region [Ob 7 (.addr (.t 1) 4),Ob 8 (.load (.t 7) none),Ob 9 (.call 39 [(.t 8)]),Ob 2 (.mov (.t 9))])
 (.ret))
 (.seq (.seq (.region [Ob 11 (.bin .eql (.t 4) (Ci 2)),Ob 10 (.mov (.t 11))])
 (.cond (.t 10) (.skip)
 (.region [Ob 12 (.bin .eql (.t 4) (Ci 3)),Ob 10 (.mov (.t 12))])))
 (.cond (.t 10) (.seq (.region [Ob 13 (.addr (.t 1) 4),Ob 14 (.load (.t 13) none),Ob 15 (.bin .eql (.t 14) (Ci 0)),Ob 2 (.mov (.t 15))])
 (.ret))
 (.skip)))))))
 (.seq (.region [Ob 2 (.mov (.c (.bool false)))])
 (.ret)))
def r107 : List Res := [.t 2]
def a107 : AFn := ⟨1, c107, r107,.v⟩
def c108 : ACode := Srt.insertionSortF 5 (some 5)
def r108 : List Res := []
def a108 : AFn := ⟨4, c108, r108,.r⟩
def c109 : ACode := Srt.heapSortF 5 (some 5) 118
def r109 : List Res := []
def a109 : AFn := ⟨4, c109, r109,.r⟩
def c110 : ACode := Srt.breakPatternsF 5 (some 5) 101 102
def r110 : List Res := []
def a110 : AFn := ⟨4, c110, r110,.r⟩
def c111 : ACode := Srt.choosePivotF 5 (some 5) 120 119
def r111 : List Res := [.t 8,.t 9]
def a111 : AFn := ⟨4, c111, r111,.r⟩
def c112 : ACode := Srt.reverseRangeF 5 (some 5)
def r112 : List Res := []
def a112 : AFn := ⟨4, c112, r112,.r⟩
def c113 : ACode := Srt.partialInsertionSortF 5 (some 5)
def r113 : List Res := [.t 8]
def a113 : AFn := ⟨4, c113, r113,.r⟩
def c114 : ACode := Srt.partitionEqualF 5 (some 5)
def r114 : List Res := [.t 10]
def a114 : AFn := ⟨5, c114, r114,.r⟩
def c115 : ACode := Srt.partitionF 5 (some 5)
def r115 : List Res := [.t 10,.t 11]
def a115 : AFn := ⟨5, c115, r115,.r⟩
def c117 : ACode := .seq (.region [Ob 4 (.mov (Ci 0))])
 (.seq (.seq (.region [Ob 6 (.mov (.t 0)),Ob 7 (.len (.t 6)),Ob 8 (.mov (Ci 0))])
 (.block 0 (.loop (.seq (.region [Ob 9 (.bin .lss (.t 8) (.t 7))])
 (.seq (.cond (.t 9) (.skip)
 (.exit 0))
 (.seq (.block 1 (.seq (.region [Ob 10 (.mov (.t 8)),Ob 5 (.mov (.t 10))])
 (.seq (.region [Ob 11 (.mov (.t 1)),Ob 12 (.mov (.t 0)),Ob 13 (.mov (.t 5)),Ob 14 (.idx (.t 12) (.t 13) 5),Ob 15 (.load (.t 14) (some 5)),Ob 16 (.callv (.t 11) [(.t 15)])])
 (.cond (.t 16) (.seq (.region [Ob 17 (.mov (.t 5)),Ob 4 (.mov (.t 17))])
 (.ret))
 (.skip)))))
 (.region [Ob 18 (.bin .add (.t 8) (Ci 1)),Ob 8 (.mov (.t 18))])))))))
 (.seq (.region [Ob 4 (.mov (Ci (-1)))])
 (.ret)))
def r117 : List Res := [.t 4]
def a117 : AFn := ⟨2, c117, r117,.v⟩
def c118 : ACode := Srt.siftDownF 5 (some 5)
def r118 : List Res := []
def a118 : AFn := ⟨5, c118, r118,.r⟩
def c119 : ACode := Srt.medianAdjacentF 5 (some 5) 120
def r119 : List Res := [.t 8]
def a119 : AFn := ⟨4, c119, r119,.r⟩
def c120 : ACode := Srt.medianF 5 (some 5) 121
def r120 : List Res := [.t 12]
def a120 : AFn := ⟨6, c120, r120,.r⟩
def c121 : ACode := Srt.order2F 5 (some 5)
def r121 : List Res := [.t 10,.t 11]
def a121 : AFn := ⟨5, c121, r121,.r⟩
def ft : FuncId → Option AFn
  | 7 => some a7
  | 11 => some a11
  | 13 => some a13
  | 14 => some a14
  | 17 => some a17
  | 19 => some a19
  | 20 => some a20
  | 23 => some a23
  | 24 => some a24
  | 25 => some a25
  | 31 => some a31
  | 32 => some a32
  | 33 => some a33
  | 34 => some a34
  | 35 => some a35
  | 36 => some a36
  | 37 => some a37
  | 38 => some a38
  | 39 => some a39
  | 40 => some a40
  | 42 => some a42
  | 43 => some a43
  | 44 => some a44
  | 45 => some a45
  | 48 => some a48
  | 49 => some a49
  | 50 => some a50
  | 51 => some a51
  | 52 => some a52
  | 53 => some a53
  | 54 => some a54
  | 55 => some a55
  | 56 => some a56
  | 57 => some a57
  | 58 => some a58
  | 59 => some a59
  | 60 => some a60
  | 61 => some a61
  | 66 => some a66
  | 67 => some a67
  | 68 => some a68
  | 69 => some a69
  | 70 => some a70
  | 71 => some a71
  | 72 => some a72
  | 73 => some a73
  | 74 => some a74
  | 75 => some a75
  | 76 => some a76
  | 77 => some a77
  | 78 => some a78
  | 79 => some a79
  | 85 => some a85
  | 89 => some a89
  | 90 => some a90
  | 91 => some a91
  | 92 => some a92
  | 93 => some a93
  | 94 => some a94
  | 95 => some a95
  | 96 => some a96
  | 97 => some a97
  | 98 => some a98
  | 99 => some a99
  | 101 => some a101
  | 102 => some a102
  | 105 => some a105
  | 106 => some a106
  | 107 => some a107
  | 108 => some a108
  | 109 => some a109
  | 110 => some a110
  | 111 => some a111
  | 112 => some a112
  | 113 => some a113
  | 114 => some a114
  | 115 => some a115
  | 117 => some a117
  | 118 => some a118
  | 119 => some a119
  | 120 => some a120
  | 121 => some a121
  | _ => none
theorem ft7 : ft 7 = some a7 := rfl
theorem ft11 : ft 11 = some a11 := rfl
theorem ft13 : ft 13 = some a13 := rfl
theorem ft14 : ft 14 = some a14 := rfl
theorem ft20 : ft 20 = some a20 := rfl
theorem ft23 : ft 23 = some a23 := rfl
theorem ft24 : ft 24 = some a24 := rfl
theorem ft25 : ft 25 = some a25 := rfl
theorem ft31 : ft 31 = some a31 := rfl
theorem ft32 : ft 32 = some a32 := rfl
theorem ft34 : ft 34 = some a34 := rfl
theorem ft35 : ft 35 = some a35 := rfl
theorem ft36 : ft 36 = some a36 := rfl
theorem ft39 : ft 39 = some a39 := rfl
theorem ft40 : ft 40 = some a40 := rfl
theorem ft42 : ft 42 = some a42 := rfl
theorem ft43 : ft 43 = some a43 := rfl
theorem ft44 : ft 44 = some a44 := rfl
theorem ft45 : ft 45 = some a45 := rfl
theorem ft48 : ft 48 = some a48 := rfl
theorem ft49 : ft 49 = some a49 := rfl
theorem ft50 : ft 50 = some a50 := rfl
theorem ft51 : ft 51 = some a51 := rfl
theorem ft52 : ft 52 = some a52 := rfl
theorem ft53 : ft 53 = some a53 := rfl
theorem ft54 : ft 54 = some a54 := rfl
theorem ft55 : ft 55 = some a55 := rfl
theorem ft58 : ft 58 = some a58 := rfl
theorem ft59 : ft 59 = some a59 := rfl
theorem ft60 : ft 60 = some a60 := rfl
theorem ft61 : ft 61 = some a61 := rfl
theorem ft66 : ft 66 = some a66 := rfl
theorem ft67 : ft 67 = some a67 := rfl
theorem ft69 : ft 69 = some a69 := rfl
theorem ft70 : ft 70 = some a70 := rfl
theorem ft71 : ft 71 = some a71 := rfl
theorem ft72 : ft 72 = some a72 := rfl
theorem ft73 : ft 73 = some a73 := rfl
theorem ft74 : ft 74 = some a74 := rfl
theorem ft75 : ft 75 = some a75 := rfl
theorem ft76 : ft 76 = some a76 := rfl
theorem ft77 : ft 77 = some a77 := rfl
theorem ft78 : ft 78 = some a78 := rfl
theorem ft90 : ft 90 = some a90 := rfl
theorem ft91 : ft 91 = some a91 := rfl
theorem ft92 : ft 92 = some a92 := rfl
theorem ft93 : ft 93 = some a93 := rfl
theorem ft94 : ft 94 = some a94 := rfl
theorem ft98 : ft 98 = some a98 := rfl
theorem ft99 : ft 99 = some a99 := rfl
theorem ft105 : ft 105 = some a105 := rfl
theorem ft106 : ft 106 = some a106 := rfl
theorem ft107 : ft 107 = some a107 := rfl
theorem ft117 : ft 117 = some a117 := rfl
end Go.Ab.T
end
section
namespace Go.Ab.T
abbrev WBv (f : FuncId) : Prop := ∀ (s : St) (as : List AV) (K : AV → St → Prop), WB ft f as s K = WV ft f (as.map (snap s.mem dep)) fun v => (as.all (fun a => !hot dep a) || plain dep v) = true ∧ K v s
theorem WB11 : WBv 11 := fun s as K => WB_v ft11 rfl as s K
theorem WB13 : WBv 13 := fun s as K => WB_v ft13 rfl as s K
theorem WB14 : WBv 14 := fun s as K => WB_v ft14 rfl as s K
theorem WB20 : WBv 20 := fun s as K => WB_v ft20 rfl as s K
theorem WB23 : WBv 23 := fun s as K => WB_v ft23 rfl as s K
theorem WB24 : WBv 24 := fun s as K => WB_v ft24 rfl as s K
theorem WB25 : WBv 25 := fun s as K => WB_v ft25 rfl as s K
theorem WB31 : WBv 31 := fun s as K => WB_v ft31 rfl as s K
theorem WB32 : WBv 32 := fun s as K => WB_v ft32 rfl as s K
theorem WB34 (s : St) (as : List AV) (K : AV → St → Prop) : WB ft 34 as s K = WR ft (.f 34) as s.mem fun v m => K v (s.setMem m) := WB_r ft34 rfl as s K
theorem WB35 : WBv 35 := fun s as K => WB_v ft35 rfl as s K
theorem WB36 (s : St) (as : List AV) (K : AV → St → Prop) : WB ft 36 as s K = WR ft (.f 36) as s.mem fun v m => K v (s.setMem m) := WB_r ft36 rfl as s K
theorem WB39 : WBv 39 := fun s as K => WB_v ft39 rfl as s K
theorem WB40 (s : St) (as : List AV) (K : AV → St → Prop) : WB ft 40 as s K = WR ft (.f 40) as s.mem fun v m => K v (s.setMem m) := WB_r ft40 rfl as s K
theorem WB42 (s : St) (as : List AV) (K : AV → St → Prop) : WB ft 42 as s K = WR ft (.f 42) as s.mem fun v m => K v (s.setMem m) := WB_r ft42 rfl as s K
theorem WB43 : WBv 43 := fun s as K => WB_v ft43 rfl as s K
theorem WB44 : WBv 44 := fun s as K => WB_v ft44 rfl as s K
theorem WB45 : WBv 45 := fun s as K => WB_v ft45 rfl as s K
theorem WB48 : WBv 48 := fun s as K => WB_v ft48 rfl as s K
theorem WB49 : WBv 49 := fun s as K => WB_v ft49 rfl as s K
theorem WB50 : WBv 50 := fun s as K => WB_v ft50 rfl as s K
theorem WB51 (s : St) (as : List AV) (K : AV → St → Prop) : WB ft 51 as s K = WR ft (.f 51) (as.map (snap s.mem dep)) .nil fun v m => (as.all (fun a => !hot dep a) || (ownly dep v && m.blks.all Blk.ownly)) = true ∧
      K (shift s.mem.blks.length s.mem.toks.length dep v) (s.setMem (joinMem s.mem m dep)) := WB_o ft51 rfl as s K
theorem WB52 : WBv 52 := fun s as K => WB_v ft52 rfl as s K
theorem WB53 (s : St) (as : List AV) (K : AV → St → Prop) : WB ft 53 as s K = WR ft (.f 53) as s.mem fun v m => K v (s.setMem m) := WB_r ft53 rfl as s K
theorem WB54 (s : St) (as : List AV) (K : AV → St → Prop) : WB ft 54 as s K = WR ft (.f 54) as s.mem fun v m => K v (s.setMem m) := WB_r ft54 rfl as s K
theorem WB55 : WBv 55 := fun s as K => WB_v ft55 rfl as s K
theorem WB58 (s : St) (as : List AV) (K : AV → St → Prop) : WB ft 58 as s K = WR ft (.f 58) as s.mem fun v m => K v (s.setMem m) := WB_r ft58 rfl as s K
theorem WB59 : WBv 59 := fun s as K => WB_v ft59 rfl as s K
theorem WB60 : WBv 60 := fun s as K => WB_v ft60 rfl as s K
theorem WB61 : WBv 61 := fun s as K => WB_v ft61 rfl as s K
theorem WB66 : WBv 66 := fun s as K => WB_v ft66 rfl as s K
theorem WB67 : WBv 67 := fun s as K => WB_v ft67 rfl as s K
theorem WB69 (s : St) (as : List AV) (K : AV → St → Prop) : WB ft 69 as s K = WR ft (.f 69) (as.map (snap s.mem dep)) .nil fun v m => (as.all (fun a => !hot dep a) || (ownly dep v && m.blks.all Blk.ownly)) = true ∧
      K (shift s.mem.blks.length s.mem.toks.length dep v) (s.setMem (joinMem s.mem m dep)) := WB_o ft69 rfl as s K
theorem WB70 (s : St) (as : List AV) (K : AV → St → Prop) : WB ft 70 as s K = WR ft (.f 70) as s.mem fun v m => K v (s.setMem m) := WB_r ft70 rfl as s K
theorem WB71 : WBv 71 := fun s as K => WB_v ft71 rfl as s K
theorem WB72 : WBv 72 := fun s as K => WB_v ft72 rfl as s K
theorem WB73 : WBv 73 := fun s as K => WB_v ft73 rfl as s K
theorem WB74 (s : St) (as : List AV) (K : AV → St → Prop) : WB ft 74 as s K = WR ft (.f 74) as s.mem fun v m => K v (s.setMem m) := WB_r ft74 rfl as s K
theorem WB75 (s : St) (as : List AV) (K : AV → St → Prop) : WB ft 75 as s K = WR ft (.f 75) as s.mem fun v m => K v (s.setMem m) := WB_r ft75 rfl as s K
theorem WB76 (s : St) (as : List AV) (K : AV → St → Prop) : WB ft 76 as s K = WR ft (.f 76) as s.mem fun v m => K v (s.setMem m) := WB_r ft76 rfl as s K
theorem WB77 (s : St) (as : List AV) (K : AV → St → Prop) : WB ft 77 as s K = WR ft (.f 77) as s.mem fun v m => K v (s.setMem m) := WB_r ft77 rfl as s K
theorem WB78 (s : St) (as : List AV) (K : AV → St → Prop) : WB ft 78 as s K = WR ft (.f 78) as s.mem fun v m => K v (s.setMem m) := WB_r ft78 rfl as s K
theorem WB91 : WBv 91 := fun s as K => WB_v ft91 rfl as s K
theorem WB92 : WBv 92 := fun s as K => WB_v ft92 rfl as s K
theorem WB93 : WBv 93 := fun s as K => WB_v ft93 rfl as s K
theorem WB94 : WBv 94 := fun s as K => WB_v ft94 rfl as s K
theorem WB98 : WBv 98 := fun s as K => WB_v ft98 rfl as s K
theorem WB99 (s : St) (as : List AV) (K : AV → St → Prop) : WB ft 99 as s K = WR ft (.f 99) as s.mem fun v m => K v (s.setMem m) := WB_r ft99 rfl as s K
theorem WB105 : WBv 105 := fun s as K => WB_v ft105 rfl as s K
theorem WB106 : WBv 106 := fun s as K => WB_v ft106 rfl as s K
theorem WB107 : WBv 107 := fun s as K => WB_v ft107 rfl as s K
theorem WB117 : WBv 117 := fun s as K => WB_v ft117 rfl as s K
end Go.Ab.T
end
