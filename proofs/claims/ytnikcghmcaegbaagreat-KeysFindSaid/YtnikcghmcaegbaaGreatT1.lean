/-
 A part of the proofs over this seat.
 (The texts KxT KxW, one behind the other.)
-/
import Derived.Test.YtnikcghmcaegbaaGreatA0
import Derived.Test.YtnikcghmcaegbaaGreatB1
set_option linter.unusedSimpArgs false
set_option linter.unusedVariables false
set_option linter.unusedSectionVars false
section
namespace Go.Ab.T
def c4 : ACode := .seq (.region [Ob 2 (.box (.t 0) 5),Ob 3 (.box (.t 1) 3),Ob 4 (.mov (.c (.bool false)))])
 (.seq (.seq (.region [Ob 20 (.load (.t 2) (some 5)),Ob 21 (.load (.t 3) (some 3)),Ob 22 (.call 14 [(.t 20), (.t 21)]),Ob 23 (.not (.t 22))])
 (.cond (.t 23) (.seq (.region [Ob 24 (.call 15 []),Ob 4 (.mov (.t 24))])
 (.ret))
 (.skip)))
 (.seq (.region [Ob 26 (.load (.t 2) (some 5)),Ob 27 (.addr (.t 3) 0),Ob 28 (.load (.t 27) none),Ob 29 (.call 21 [(.t 26), (.t 28)]),Ob 25 (.mov (.t 29)),Ob 30 (.ext (.t 25) 0),Ob 31 (.ext (.t 25) 1),Ob 5 (.new (.agg [(.int .i64 0), (.int .i64 0), (.int .i64 0), (.int .i64 0), (.int .i64 0), (.bool false), (.sl [] .tight)]) 7),On (.store (.t 5) (.t 30) 7),Ob 6 (.mov (.t 31))])
 (.seq (.region [Ob 33 (.load (.t 2) (some 5)),Ob 34 (.addr (.t 3) 1),Ob 35 (.load (.t 34) none),Ob 36 (.call 22 [(.t 33), (.t 35)]),Ob 32 (.mov (.t 36)),Ob 37 (.ext (.t 32) 0),Ob 38 (.ext (.t 32) 1),Ob 7 (.new (.agg [(.int .i64 0), (.sl [] .tight), (.sl [] .tight)]) 3),On (.store (.t 7) (.t 37) 3),Ob 8 (.mov (.t 38))])
 (.seq (.region [Ob 40 (.load (.t 2) (some 5)),Ob 41 (.addr (.t 3) 0),Ob 42 (.load (.t 41) none),Ob 43 (.addr (.t 3) 1),Ob 44 (.load (.t 43) none),Ob 45 (.addr (.t 3) 2),Ob 46 (.load (.t 45) none),Ob 47 (.call 18 [(.t 40), (.t 42), (.t 44), (.t 46)]),Ob 39 (.mov (.t 47)),Ob 48 (.ext (.t 39) 0),Ob 49 (.ext (.t 39) 1),Ob 50 (.ext (.t 39) 2),Ob 9 (.mov (.t 48)),Ob 10 (.mov (.t 49)),Ob 11 (.mov (.t 50))])
 (.seq (.region [Ob 52 (.load (.t 2) (some 5)),Ob 53 (.addr (.t 3) 0),Ob 54 (.load (.t 53) none),Ob 55 (.addr (.t 3) 1),Ob 56 (.load (.t 55) none),Ob 57 (.call 23 [(.t 52), (.t 54), (.t 56)]),Ob 51 (.mov (.t 57)),Ob 58 (.ext (.t 51) 0),Ob 59 (.ext (.t 51) 1),Ob 12 (.mov (.t 58)),Ob 13 (.mov (.t 59))])
 (.seq (.region [Ob 61 (.load (.t 2) (some 5)),Ob 62 (.addr (.t 3) 0),Ob 63 (.load (.t 62) none),Ob 64 (.addr (.t 3) 1),Ob 65 (.load (.t 64) none),Ob 66 (.call 24 [(.t 61), (.t 63), (.t 65)]),Ob 60 (.mov (.t 66)),Ob 67 (.ext (.t 60) 0),Ob 68 (.ext (.t 60) 1),Ob 14 (.mov (.t 67)),Ob 15 (.mov (.t 68))])
 (.seq (.seq (.region [Ob 69 (.mov (.t 11)),Ob 70 (.bin .neq (.t 69) (Ci 0)),Ob 71 (.mov (.t 70)),Og 72 71 false (.mov (.t 13)),Og 73 71 false (.bin .neq (.t 72) (Ci 0)),Ob 74 (.pick (.t 71) (.c (.bool true)) (.t 73)),Ob 75 (.mov (.t 74)),Og 76 75 false (.mov (.t 15)),Og 77 75 false (.bin .neq (.t 76) (Ci 0)),Ob 78 (.pick (.t 75) (.c (.bool true)) (.t 77)),Ob 79 (.mov (.t 78)),Og 80 79 false (.mov (.t 12)),Og 81 79 false (.len (.t 80)),Og 82 79 false (.bin .gtr (.t 81) (Ci 30)),Ob 83 (.pick (.t 79) (.c (.bool true)) (.t 82))])
 (.cond (.t 83) (.seq (.region [Ob 4 (.mov (.c (.bool false)))])
 (.ret))
 (.skip)))
 (.seq (.seq (.region [Ob 16 (.mov (Ci 0))])
 (.block 0 (.loop (.seq (.seq (.region [Ob 84 (.mov (.t 16)),Ob 85 (.mov (.t 12)),Ob 86 (.len (.t 85)),Ob 87 (.bin .lss (.t 84) (.t 86))])
 (.cond (.t 87) (.skip)
 (.exit 0)))
 (.seq (.block 1 (.seq (.region [Ob 90 (.mov (.t 12)),Ob 91 (.mov (.t 16)),Ob 92 (.idx (.t 90) (.t 91) 2),Ob 93 (.addr (.t 92) 0),Ob 94 (.load (.t 93) none),Ob 95 (.bin .lss (.t 94) (Ci 0)),Ob 96 (.mov (.t 95)),Og 97 96 false (.mov (.t 12)),Og 98 96 false (.mov (.t 16)),Og 99 96 false (.idx (.t 97) (.t 98) 2),Og 100 96 false (.addr (.t 99) 0),Og 101 96 false (.load (.t 100) none),Og 102 96 false (.mov (.t 12)),Og 103 96 false (.mov (.t 16)),Og 104 96 false (.idx (.t 102) (.t 103) 2),Og 105 96 false (.addr (.t 104) 1),Og 106 96 false (.load (.t 105) none),Og 107 96 false (.bin .gtr (.t 101) (.t 106)),Ob 108 (.pick (.t 96) (.c (.bool true)) (.t 107)),Ob 109 (.mov (.t 108)),Og 110 109 false (.mov (.t 12)),Og 111 109 false (.mov (.t 16)),Og 112 109 false (.idx (.t 110) (.t 111) 2),Og 113 109 false (.addr (.t 112) 1),Og 114 109 false (.load (.t 113) none),Og 115 109 false (.bin .gtr (.t 114) (Ci 9999)),Ob 116 (.pick (.t 109) (.c (.bool true)) (.t 115)),Ob 117 (.mov (.t 116)),Og 118 117 false (.mov (.t 16)),Og 119 117 false (.bin .gtr (.t 118) (Ci 0)),Og 120 117 false (.mov (.t 119)),Og 121 120 true (.mov (.t 12)),Og 122 120 true (.mov (.t 16)),Og 123 120 true (.idx (.t 121) (.t 122) 2),Og 124 120 true (.addr (.t 123) 0),Og 125 120 true (.load (.t 124) none),Og 126 120 true (.mov (.t 12)),Og 127 120 true (.mov (.t 16)),Og 128 120 true (.bin .sub (.t 127) (Ci 1)),Og 129 120 true (.idx (.t 126) (.t 128) 2),Og 130 120 true (.addr (.t 129) 1),Og 131 120 true (.load (.t 130) none),Og 132 120 true (.bin .add (.t 131) (Ci 1)),Og 133 120 true (.bin .leq (.t 125) (.t 132)),Og 134 117 false (.pick (.t 120) (.t 133) (.c (.bool false))),Ob 135 (.pick (.t 117) (.c (.bool true)) (.t 134))])
 (.cond (.t 135) (.seq (.region [Ob 4 (.mov (.c (.bool false)))])
 (.ret))
 (.skip))))
 (.region [Ob 88 (.mov (.t 16)),Ob 89 (.bin .add (.t 88) (Ci 1)),Ob 16 (.mov (.t 89))]))))))
 (.seq (.region [Ob 17 (.mov (.c (.bool true))),Ob 18 (.mov (Ci (-1)))])
 (.seq (.seq (.region [Ob 136 (.addr (.t 3) 2),Ob 137 (.load (.t 136) none),Ob 19 (.mov (.t 137))])
 (.block 2 (.loop (.seq (.seq (.region [Ob 138 (.mov (.t 19)),Ob 139 (.addr (.t 3) 2),Ob 140 (.load (.t 139) none),Ob 141 (.addr (.t 5) 4),Ob 142 (.load (.t 141) none),Ob 143 (.bin .add (.t 140) (.t 142)),Ob 144 (.bin .lss (.t 138) (.t 143))])
 (.cond (.t 144) (.skip)
 (.exit 2)))
 (.seq (.block 3 (.seq (.region [Ob 147 (.mov (.t 12)),Ob 148 (.mov (.t 19)),Ob 149 (.call 25 [(.t 147), (.t 148)]),Ob 150 (.not (.t 149))])
 (.cond (.t 150) (.seq (.seq (.region [Ob 151 (.mov (.t 17))])
 (.cond (.t 151) (.region [Ob 152 (.mov (.t 19)),Ob 18 (.mov (.t 152))])
 (.skip)))
 (.region [Ob 17 (.mov (.c (.bool false)))]))
 (.skip))))
 (.region [Ob 145 (.mov (.t 19)),Ob 146 (.bin .add (.t 145) (Ci 1)),Ob 19 (.mov (.t 146))]))))))
 (.seq (.seq (.region [Ob 153 (.mov (.t 9)),Ob 154 (.bin .eql (.t 153) (Ci 0)),Ob 155 (.mov (.t 17)),Ob 156 (.mov (.t 155)),Og 157 156 true (.mov (.t 14)),Og 158 156 true (.len (.t 157)),Og 159 156 true (.bin .eql (.t 158) (Ci 0)),Ob 160 (.pick (.t 156) (.t 159) (.c (.bool false))),Ob 161 (.eqv true false [.b] (.t 154) (.t 160))])
 (.cond (.t 161) (.seq (.region [Ob 4 (.mov (.c (.bool false)))])
 (.ret))
 (.skip)))
 (.seq (.seq (.region [Ob 162 (.mov (.t 9))])
 (.block 4 (.seq (.region [Ob 164 (.bin .eql (.t 162) (Ci 0)),Ob 163 (.mov (.t 164))])
 (.cond (.t 163) (.seq (.region [Ob 165 (.mov (.t 10)),Ob 166 (.addr (.t 3) 2),Ob 167 (.load (.t 166) none),Ob 168 (.addr (.t 5) 4),Ob 169 (.load (.t 168) none),Ob 170 (.bin .add (.t 167) (.t 169)),Ob 171 (.bin .sub (.t 170) (Ci 1)),Ob 172 (.bin .eql (.t 165) (.t 171)),Ob 173 (.mov (.t 172)),Og 174 173 true (.call 15 []),Ob 175 (.pick (.t 173) (.t 174) (.c (.bool false))),Ob 4 (.mov (.t 175))])
 (.ret))
 (.seq (.region [Ob 177 (.bin .eql (.t 162) (Ci 1)),Ob 176 (.mov (.t 177))])
 (.cond (.t 176) (.seq (.region [Ob 178 (.mov (.t 14)),Ob 179 (.mov (.t 10)),Ob 180 (.call 26 [(.t 178), (.t 179)]),Ob 181 (.mov (.t 180)),Og 182 181 true (.call 15 []),Ob 183 (.pick (.t 181) (.t 182) (.c (.bool false))),Ob 4 (.mov (.t 183))])
 (.ret))
 (.seq (.region [Ob 185 (.bin .eql (.t 162) (Ci 2)),Ob 184 (.mov (.t 185))])
 (.cond (.t 184) (.seq (.region [Ob 186 (.addr (.t 5) 5),Ob 187 (.load (.t 186) none),Ob 188 (.mov (.t 187)),Og 189 188 true (.mov (.t 12)),Og 190 188 true (.len (.t 189)),Og 191 188 true (.bin .eql (.t 190) (Ci 0)),Ob 192 (.pick (.t 188) (.t 191) (.c (.bool false))),Ob 193 (.mov (.t 192)),Og 194 193 true (.mov (.t 10)),Og 195 193 true (.bin .eql (.t 194) (Ci (-1))),Ob 196 (.pick (.t 193) (.t 195) (.c (.bool false))),Ob 197 (.mov (.t 196)),Og 198 197 true (.call 15 []),Ob 199 (.pick (.t 197) (.t 198) (.c (.bool false))),Ob 4 (.mov (.t 199))])
 (.ret))
 (.seq (.region [Ob 201 (.bin .eql (.t 162) (Ci 3)),Ob 200 (.mov (.t 201))])
 (.cond (.t 200) (.seq (.region [Ob 202 (.addr (.t 5) 5),Ob 203 (.load (.t 202) none),Ob 204 (.mov (.t 203)),Og 205 204 true (.mov (.t 12)),Og 206 204 true (.len (.t 205)),Og 207 204 true (.bin .eql (.t 206) (Ci 0)),Ob 208 (.pick (.t 204) (.t 207) (.c (.bool false))),Ob 209 (.mov (.t 208)),Og 210 209 true (.addr (.t 7) 1),Og 211 209 true (.load (.t 210) none),Og 212 209 true (.mov (.t 10)),Og 213 209 true (.call 26 [(.t 211), (.t 212)]),Ob 214 (.pick (.t 209) (.t 213) (.c (.bool false))),Ob 215 (.mov (.t 214)),Og 216 215 true (.call 15 []),Ob 217 (.pick (.t 215) (.t 216) (.c (.bool false))),Ob 4 (.mov (.t 217))])
 (.ret))
 (.seq (.region [Ob 219 (.bin .eql (.t 162) (Ci 4)),Ob 218 (.mov (.t 219))])
 (.cond (.t 218) (.seq (.region [Ob 220 (.mov (.t 10)),Ob 221 (.mov (.t 18)),Ob 222 (.bin .eql (.t 220) (.t 221)),Ob 223 (.mov (.t 222)),Og 224 223 true (.call 15 []),Ob 225 (.pick (.t 223) (.t 224) (.c (.bool false))),Ob 4 (.mov (.t 225))])
 (.ret))
 (.skip)))))))))))))
 (.seq (.region [Ob 4 (.mov (.c (.bool false)))])
 (.ret))))))))))))))
def r4 : List Res := [.t 4]
def a4 : AFn := ⟨2, c4, r4,.v⟩
def c5 : ACode := .seq (.region [Ob 3 (.box (.t 0) 5),Ob 4 (.box (.t 1) 5),Ob 5 (.box (.t 2) 3),Ob 6 (.mov (.c (.bool false)))])
 (.seq (.seq (.region [Ob 24 (.load (.t 3) (some 5)),Ob 25 (.load (.t 5) (some 3)),Ob 26 (.call 14 [(.t 24), (.t 25)]),Ob 27 (.not (.t 26)),Ob 28 (.mov (.t 27)),Og 29 28 false (.addr (.t 4) 2),Og 30 28 false (.load (.t 29) none),Og 31 28 false (.len (.t 30)),Og 32 28 false (.bin .gtr (.t 31) (Ci 50)),Ob 33 (.pick (.t 28) (.c (.bool true)) (.t 32)),Ob 34 (.mov (.t 33)),Og 35 34 false (.addr (.t 3) 3),Og 36 34 false (.load (.t 35) none),Og 37 34 false (.len (.t 36)),Og 38 34 false (.bin .geq (.t 37) (Ci 20)),Ob 39 (.pick (.t 34) (.c (.bool true)) (.t 38)),Ob 40 (.mov (.t 39)),Og 41 40 false (.addr (.t 3) 4),Og 42 40 false (.load (.t 41) none),Og 43 40 false (.len (.t 42)),Og 44 40 false (.bin .geq (.t 43) (Ci 20)),Ob 45 (.pick (.t 40) (.c (.bool true)) (.t 44))])
 (.cond (.t 45) (.seq (.region [Ob 46 (.call 15 []),Ob 6 (.mov (.t 46))])
 (.ret))
 (.skip)))
 (.seq (.region [Ob 47 (.load (.t 3) (some 5)),Ob 49 (.load (.t 3) (some 5)),On (.mov (.c .undef)),On (.mov (.c .undef)),Ob 48 (.call 16 [(.t 47)]),Ob 50 (.call 16 [(.t 49)]),Ob 7 (.box (.t 48) 5),Ob 8 (.box (.t 50) 5)])
 (.seq (.region [Ob 51 (.addr (.t 7) 3),Ob 52 (.load (.t 51) none),Ob 53 (.load (.t 4) (some 5)),Ob 54 (.lit false 37 5 [(.t 53)]),Ob 55 (.app false (.t 52) (.t 54) 37 5 56),Ob 56 (.addr (.t 7) 3),On (.store (.t 56) (.t 55) 1)])
 (.seq (.region [Ob 57 (.addr (.t 8) 4),Ob 58 (.load (.t 57) none),Ob 59 (.addr (.t 4) 0),Ob 60 (.load (.t 59) none),Ob 61 (.lit false 3 1 [(.t 60)]),Ob 62 (.app false (.t 58) (.t 61) 3 1 8),Ob 63 (.addr (.t 8) 4),On (.store (.t 63) (.t 62) 1)])
 (.seq (.seq (.seq (.frz)
 (.region [Ob 64 (.load (.t 7) (some 5)),Ob 65 (.call 27 [(.t 64)]),Ob 66 (.bin .neq (.t 65) (Ci 0)),Ob 67 (.mov (.t 66)),Og 68 67 false (.load (.t 8) (some 5)),Og 69 67 false (.call 27 [(.t 68)]),Og 70 67 false (.bin .neq (.t 69) (Ci 0)),Ob 71 (.pick (.t 67) (.c (.bool true)) (.t 70))]))
 (.cond (.t 71) (.seq (.region [Ob 72 (.call 15 []),Ob 6 (.mov (.t 72))])
 (.ret))
 (.skip)))
 (.seq (.region [Ob 74 (.load (.t 3) (some 5)),Ob 75 (.addr (.t 5) 0),Ob 76 (.load (.t 75) none),Ob 77 (.addr (.t 5) 1),Ob 78 (.load (.t 77) none),Ob 79 (.addr (.t 5) 2),Ob 80 (.load (.t 79) none),Ob 81 (.call 18 [(.t 74), (.t 76), (.t 78), (.t 80)]),Ob 73 (.mov (.t 81)),Ob 82 (.ext (.t 73) 0),Ob 83 (.ext (.t 73) 1),Ob 84 (.ext (.t 73) 2),Ob 9 (.mov (.t 82)),Ob 10 (.mov (.t 83)),Ob 11 (.mov (.t 84))])
 (.seq (.region [Ob 86 (.load (.t 7) (some 5)),Ob 87 (.addr (.t 5) 0),Ob 88 (.load (.t 87) none),Ob 89 (.addr (.t 5) 1),Ob 90 (.load (.t 89) none),Ob 91 (.addr (.t 5) 2),Ob 92 (.load (.t 91) none),Ob 93 (.call 18 [(.t 86), (.t 88), (.t 90), (.t 92)]),Ob 85 (.mov (.t 93)),Ob 94 (.ext (.t 85) 0),Ob 95 (.ext (.t 85) 1),Ob 96 (.ext (.t 85) 2),Ob 12 (.mov (.t 94)),Ob 13 (.mov (.t 95)),Ob 14 (.mov (.t 96))])
 (.seq (.region [Ob 98 (.load (.t 8) (some 5)),Ob 99 (.addr (.t 5) 0),Ob 100 (.load (.t 99) none),Ob 101 (.addr (.t 5) 1),Ob 102 (.load (.t 101) none),Ob 103 (.addr (.t 5) 2),Ob 104 (.load (.t 103) none),Ob 105 (.call 18 [(.t 98), (.t 100), (.t 102), (.t 104)]),Ob 97 (.mov (.t 105)),Ob 106 (.ext (.t 97) 0),Ob 107 (.ext (.t 97) 1),Ob 108 (.ext (.t 97) 2),Ob 15 (.mov (.t 106)),Ob 16 (.mov (.t 107)),Ob 17 (.mov (.t 108))])
 (.seq (.region [Ob 110 (.load (.t 3) (some 5)),Ob 111 (.addr (.t 5) 0),Ob 112 (.load (.t 111) none),Ob 113 (.addr (.t 5) 1),Ob 114 (.load (.t 113) none),Ob 115 (.call 23 [(.t 110), (.t 112), (.t 114)]),Ob 109 (.mov (.t 115)),Ob 116 (.ext (.t 109) 0),Ob 117 (.ext (.t 109) 1),Ob 18 (.mov (.t 116)),Ob 19 (.mov (.t 117))])
 (.seq (.region [Ob 119 (.load (.t 7) (some 5)),Ob 120 (.addr (.t 5) 0),Ob 121 (.load (.t 120) none),Ob 122 (.addr (.t 5) 1),Ob 123 (.load (.t 122) none),Ob 124 (.call 23 [(.t 119), (.t 121), (.t 123)]),Ob 118 (.mov (.t 124)),Ob 125 (.ext (.t 118) 0),Ob 126 (.ext (.t 118) 1),Ob 20 (.mov (.t 125)),Ob 21 (.mov (.t 126))])
 (.seq (.region [Ob 128 (.load (.t 8) (some 5)),Ob 129 (.addr (.t 5) 0),Ob 130 (.load (.t 129) none),Ob 131 (.addr (.t 5) 1),Ob 132 (.load (.t 131) none),Ob 133 (.call 23 [(.t 128), (.t 130), (.t 132)]),Ob 127 (.mov (.t 133)),Ob 134 (.ext (.t 127) 0),Ob 135 (.ext (.t 127) 1),Ob 22 (.mov (.t 134)),Ob 23 (.mov (.t 135))])
 (.seq (.seq (.region [Ob 136 (.mov (.t 11)),Ob 137 (.bin .neq (.t 136) (Ci 0)),Ob 138 (.mov (.t 137)),Og 139 138 false (.mov (.t 14)),Og 140 138 false (.bin .neq (.t 139) (Ci 0)),Ob 141 (.pick (.t 138) (.c (.bool true)) (.t 140)),Ob 142 (.mov (.t 141)),Og 143 142 false (.mov (.t 17)),Og 144 142 false (.bin .neq (.t 143) (Ci 0)),Ob 145 (.pick (.t 142) (.c (.bool true)) (.t 144)),Ob 146 (.mov (.t 145)),Og 147 146 false (.mov (.t 19)),Og 148 146 false (.bin .neq (.t 147) (Ci 0)),Ob 149 (.pick (.t 146) (.c (.bool true)) (.t 148)),Ob 150 (.mov (.t 149)),Og 151 150 false (.mov (.t 21)),Og 152 150 false (.bin .neq (.t 151) (Ci 0)),Ob 153 (.pick (.t 150) (.c (.bool true)) (.t 152)),Ob 154 (.mov (.t 153)),Og 155 154 false (.mov (.t 23)),Og 156 154 false (.bin .neq (.t 155) (Ci 0)),Ob 157 (.pick (.t 154) (.c (.bool true)) (.t 156))])
 (.cond (.t 157) (.seq (.region [Ob 6 (.mov (.c (.bool false)))])
 (.ret))
 (.skip)))
 (.seq (.seq (.region [Ob 158 (.mov (.t 18)),Ob 159 (.addr (.t 5) 2),Ob 160 (.load (.t 159) none),Ob 161 (.call 25 [(.t 158), (.t 160)]),Ob 162 (.mov (.t 161)),Og 163 162 true (.mov (.t 20)),Og 164 162 true (.addr (.t 5) 2),Og 165 162 true (.load (.t 164) none),Og 166 162 true (.call 25 [(.t 163), (.t 165)]),Og 167 162 true (.not (.t 166)),Ob 168 (.pick (.t 162) (.t 167) (.c (.bool false))),Ob 169 (.mov (.t 168)),Og 170 169 false (.mov (.t 22)),Og 171 169 false (.addr (.t 5) 2),Og 172 169 false (.load (.t 171) none),Og 173 169 false (.call 25 [(.t 170), (.t 172)]),Og 174 169 false (.mov (.t 173)),Og 175 174 true (.mov (.t 18)),Og 176 174 true (.addr (.t 5) 2),Og 177 174 true (.load (.t 176) none),Og 178 174 true (.call 25 [(.t 175), (.t 177)]),Og 179 174 true (.not (.t 178)),Og 180 169 false (.pick (.t 174) (.t 179) (.c (.bool false))),Ob 181 (.pick (.t 169) (.c (.bool true)) (.t 180))])
 (.cond (.t 181) (.seq (.region [Ob 6 (.mov (.c (.bool false)))])
 (.ret))
 (.skip)))
 (.seq (.region [Ob 182 (.mov (.t 9)),Ob 183 (.bin .neq (.t 182) (Ci 0)),Ob 184 (.mov (.t 183)),Og 185 184 false (.mov (.t 12)),Og 186 184 false (.bin .eql (.t 185) (Ci 0)),Ob 187 (.pick (.t 184) (.c (.bool true)) (.t 186)),Ob 188 (.mov (.t 187)),Og 189 188 true (.mov (.t 15)),Og 190 188 true (.bin .neq (.t 189) (Ci 0)),Og 191 188 true (.mov (.t 190)),Og 192 191 false (.mov (.t 9)),Og 193 191 false (.bin .eql (.t 192) (Ci 0)),Og 194 188 true (.pick (.t 191) (.c (.bool true)) (.t 193)),Ob 195 (.pick (.t 188) (.t 194) (.c (.bool false))),Ob 196 (.mov (.t 195)),Og 197 196 true (.call 15 []),Ob 198 (.pick (.t 196) (.t 197) (.c (.bool false))),Ob 6 (.mov (.t 198))])
 (.ret)))))))))))))))
def r5 : List Res := [.t 6]
def a5 : AFn := ⟨3, c5, r5,.v⟩
def c6 : ACode := .seq (.region [Ob 3 (.box (.t 0) 5),Ob 4 (.box (.t 1) 3),Ob 6 (.mov (.c (.bool false)))])
 (.seq (.seq (.region [Ob 15 (.load (.t 3) (some 5)),Ob 16 (.load (.t 4) (some 3)),Ob 17 (.call 14 [(.t 15), (.t 16)]),Ob 18 (.not (.t 17))])
 (.cond (.t 18) (.seq (.region [Ob 19 (.call 15 []),Ob 6 (.mov (.t 19))])
 (.ret))
 (.skip)))
 (.seq (.region [Ob 21 (.load (.t 3) (some 5)),Ob 22 (.addr (.t 4) 0),Ob 23 (.load (.t 22) none),Ob 24 (.addr (.t 4) 1),Ob 25 (.load (.t 24) none),Ob 26 (.addr (.t 4) 2),Ob 27 (.load (.t 26) none),Ob 28 (.call 28 [(.t 21), (.t 23), (.t 25), (.t 27)]),Ob 20 (.mov (.t 28)),Ob 29 (.ext (.t 20) 0),Ob 30 (.ext (.t 20) 1),Ob 7 (.mov (.t 29)),Ob 8 (.mov (.t 30))])
 (.seq (.seq (.region [Ob 31 (.mov (.t 8)),Ob 32 (.bin .neq (.t 31) (Ci 0)),Ob 33 (.mov (.t 32)),Og 34 33 true (.mov (.t 8)),Og 35 33 true (.bin .neq (.t 34) (Ci 3)),Ob 36 (.pick (.t 33) (.t 35) (.c (.bool false))),Ob 37 (.mov (.t 36)),Og 38 37 false (.mov (.t 8)),Og 39 37 false (.bin .eql (.t 38) (Ci 0)),Og 40 37 false (.mov (.t 39)),Og 41 40 true (.mov (.t 7)),Og 42 40 true (.addr (.t 4) 2),Og 43 40 true (.load (.t 42) none),Og 44 40 true (.bin .lss (.t 41) (.t 43)),Og 45 40 true (.mov (.t 44)),Og 46 45 false (.mov (.t 7)),Og 47 45 false (.bin .gtr (.t 46) (Ci 9999)),Og 48 40 true (.pick (.t 45) (.c (.bool true)) (.t 47)),Og 49 37 false (.pick (.t 40) (.t 48) (.c (.bool false))),Ob 50 (.pick (.t 37) (.c (.bool true)) (.t 49))])
 (.cond (.t 50) (.seq (.region [Ob 6 (.mov (.c (.bool false)))])
 (.ret))
 (.skip)))
 (.seq (.seq (.region [Ob 51 (.mov (.t 8)),Ob 52 (.bin .eql (.t 51) (Ci 0))])
 (.cond (.t 52) (.seq (.region [Ob 54 (.load (.t 3) (some 5)),Ob 55 (.addr (.t 4) 0),Ob 56 (.load (.t 55) none),Ob 57 (.addr (.t 4) 1),Ob 58 (.load (.t 57) none),Ob 59 (.mov (.t 7)),Ob 60 (.call 18 [(.t 54), (.t 56), (.t 58), (.t 59)]),Ob 53 (.mov (.t 60)),Ob 61 (.ext (.t 53) 0),Ob 62 (.ext (.t 53) 1),Ob 63 (.ext (.t 53) 2),Ob 9 (.mov (.t 61)),Ob 10 (.mov (.t 62)),Ob 11 (.mov (.t 63))])
 (.seq (.region [Ob 64 (.mov (.t 11)),Ob 65 (.bin .neq (.t 64) (Ci 0)),Ob 66 (.mov (.t 65)),Og 67 66 false (.mov (.t 9)),Og 68 66 false (.bin .neq (.t 67) (Ci 0)),Ob 69 (.pick (.t 66) (.c (.bool true)) (.t 68))])
 (.cond (.t 69) (.seq (.region [Ob 6 (.mov (.c (.bool false)))])
 (.ret))
 (.skip))))
 (.skip)))
 (.seq (.seq (.region [Ob 70 (.mov (.t 2)),Ob 71 (.addr (.t 4) 2),Ob 72 (.load (.t 71) none),Ob 73 (.bin .geq (.t 70) (.t 72)),Ob 74 (.mov (.t 73)),Og 75 74 true (.mov (.t 2)),Og 76 74 true (.bin .leq (.t 75) (Ci 9999)),Ob 77 (.pick (.t 74) (.t 76) (.c (.bool false))),Ob 78 (.mov (.t 77)),Og 79 78 true (.mov (.t 8)),Og 80 78 true (.bin .neq (.t 79) (Ci 0)),Og 81 78 true (.mov (.t 80)),Og 82 81 false (.mov (.t 2)),Og 83 81 false (.mov (.t 7)),Og 84 81 false (.bin .lss (.t 82) (.t 83)),Og 85 78 true (.pick (.t 81) (.c (.bool true)) (.t 84)),Ob 86 (.pick (.t 78) (.t 85) (.c (.bool false)))])
 (.cond (.t 86) (.seq (.region [Ob 88 (.load (.t 3) (some 5)),Ob 89 (.addr (.t 4) 0),Ob 90 (.load (.t 89) none),Ob 91 (.addr (.t 4) 1),Ob 92 (.load (.t 91) none),Ob 93 (.mov (.t 2)),Ob 94 (.call 18 [(.t 88), (.t 90), (.t 92), (.t 93)]),Ob 87 (.mov (.t 94)),Ob 95 (.ext (.t 87) 0),Ob 96 (.ext (.t 87) 1),Ob 97 (.ext (.t 87) 2),Ob 12 (.mov (.t 95)),Ob 13 (.mov (.t 96)),Ob 14 (.mov (.t 97))])
 (.seq (.region [Ob 98 (.mov (.t 14)),Ob 99 (.bin .eql (.t 98) (Ci 0)),Ob 100 (.mov (.t 99)),Og 101 100 true (.mov (.t 12)),Og 102 100 true (.bin .neq (.t 101) (Ci 0)),Ob 103 (.pick (.t 100) (.t 102) (.c (.bool false))),Ob 104 (.mov (.t 103)),Og 105 104 true (.call 15 []),Ob 106 (.pick (.t 104) (.t 105) (.c (.bool false))),Ob 6 (.mov (.t 106))])
 (.ret)))
 (.skip)))
 (.seq (.region [Ob 107 (.call 15 []),Ob 6 (.mov (.t 107))])
 (.ret)))))))
def r6 : List Res := [.t 6]
def a6 : AFn := ⟨3, c6, r6,.v⟩
def c7 : ACode := .seq (.region [Ob 2 (.box (.t 0) 5),Ob 3 (.box (.t 1) 3),Ob 4 (.mov (.c (.bool false)))])
 (.seq (.seq (.region [Ob 17 (.load (.t 2) (some 5)),Ob 18 (.load (.t 3) (some 3)),Ob 19 (.call 14 [(.t 17), (.t 18)]),Ob 20 (.not (.t 19)),Ob 21 (.mov (.t 20)),Og 22 21 false (.addr (.t 2) 3),Og 23 21 false (.load (.t 22) none),Og 24 21 false (.len (.t 23)),Og 25 21 false (.bin .gtr (.t 24) (Ci 5)),Ob 26 (.pick (.t 21) (.c (.bool true)) (.t 25))])
 (.cond (.t 26) (.seq (.region [Ob 27 (.call 15 []),Ob 4 (.mov (.t 27))])
 (.ret))
 (.skip)))
 (.seq (.region [Ob 29 (.load (.t 2) (some 5)),Ob 30 (.addr (.t 3) 0),Ob 31 (.load (.t 30) none),Ob 32 (.addr (.t 3) 1),Ob 33 (.load (.t 32) none),Ob 34 (.addr (.t 3) 2),Ob 35 (.load (.t 34) none),Ob 36 (.call 29 [(.t 29), (.t 31), (.t 33), (.t 35)]),Ob 28 (.mov (.t 36)),Ob 37 (.ext (.t 28) 0),Ob 38 (.ext (.t 28) 1),Ob 5 (.mov (.t 37)),Ob 6 (.mov (.t 38))])
 (.seq (.region [Ob 40 (.load (.t 2) (some 5)),Ob 41 (.addr (.t 3) 0),Ob 42 (.load (.t 41) none),Ob 43 (.addr (.t 3) 1),Ob 44 (.load (.t 43) none),Ob 45 (.addr (.t 3) 2),Ob 46 (.load (.t 45) none),Ob 47 (.call 18 [(.t 40), (.t 42), (.t 44), (.t 46)]),Ob 39 (.mov (.t 47)),Ob 48 (.ext (.t 39) 0),Ob 49 (.ext (.t 39) 1),Ob 50 (.ext (.t 39) 2),Ob 7 (.mov (.t 48)),Ob 8 (.mov (.t 49)),Ob 9 (.mov (.t 50))])
 (.seq (.seq (.region [Ob 51 (.mov (.t 9)),Ob 52 (.bin .neq (.t 51) (Ci 0)),Ob 53 (.mov (.t 52)),Og 54 53 false (.mov (.t 6)),Og 55 53 false (.bin .eql (.t 54) (Ci 0)),Og 56 53 false (.mov (.t 7)),Og 57 53 false (.bin .eql (.t 56) (Ci 0)),Og 58 53 false (.eqv true false [.b] (.t 55) (.t 57)),Ob 59 (.pick (.t 53) (.c (.bool true)) (.t 58)),Ob 60 (.mov (.t 59)),Og 61 60 false (.mov (.t 6)),Og 62 60 false (.bin .neq (.t 61) (Ci 0)),Og 63 60 false (.mov (.t 62)),Og 64 63 true (.mov (.t 6)),Og 65 63 true (.bin .neq (.t 64) (Ci 3)),Og 66 60 false (.pick (.t 63) (.t 65) (.c (.bool false))),Ob 67 (.pick (.t 60) (.c (.bool true)) (.t 66))])
 (.cond (.t 67) (.seq (.region [Ob 4 (.mov (.c (.bool false)))])
 (.ret))
 (.skip)))
 (.seq (.seq (.region [Ob 68 (.mov (.t 6)),Ob 69 (.bin .neq (.t 68) (Ci 0))])
 (.cond (.t 69) (.seq (.region [Ob 70 (.call 15 []),Ob 4 (.mov (.t 70))])
 (.ret))
 (.skip)))
 (.seq (.region [Ob 10 (.mov (.c (.bool false)))])
 (.seq (.seq (.region [Ob 11 (.mov (Ci 0))])
 (.block 0 (.loop (.seq (.seq (.region [Ob 71 (.mov (.t 11)),Ob 72 (.addr (.t 2) 3),Ob 73 (.load (.t 72) none),Ob 74 (.len (.t 73)),Ob 75 (.conv .u64 (.t 74)),Ob 76 (.bin .shl (Ci 1) (.t 75)),Ob 77 (.bin .lss (.t 71) (.t 76))])
 (.cond (.t 77) (.skip)
 (.exit 0)))
 (.seq (.block 1 (.seq (.region [Ob 81 (.load (.t 2) (some 5)),Ob 82 (.mov (.t 11)),Ob 83 (.call 30 [(.t 81), (.t 82)]),Ob 80 (.mov (.t 83)),Ob 84 (.ext (.t 80) 0),Ob 85 (.ext (.t 80) 1),Ob 12 (.new (.agg [(.sl [] .tight), (.sl [] .tight), (.sl [] .tight), (.sl [] .tight), (.sl [] .tight)]) 5),On (.store (.t 12) (.t 84) 5),Ob 13 (.mov (.t 85))])
 (.seq (.region [Ob 87 (.load (.t 12) (some 5)),Ob 88 (.addr (.t 3) 0),Ob 89 (.load (.t 88) none),Ob 90 (.addr (.t 3) 1),Ob 91 (.load (.t 90) none),Ob 92 (.addr (.t 3) 2),Ob 93 (.load (.t 92) none),Ob 94 (.call 18 [(.t 87), (.t 89), (.t 91), (.t 93)]),Ob 86 (.mov (.t 94)),Ob 95 (.ext (.t 86) 0),Ob 96 (.ext (.t 86) 1),Ob 97 (.ext (.t 86) 2),Ob 14 (.mov (.t 95)),Ob 15 (.mov (.t 96)),Ob 16 (.mov (.t 97))])
 (.seq (.seq (.region [Ob 98 (.mov (.t 16)),Ob 99 (.bin .neq (.t 98) (Ci 0)),Ob 100 (.mov (.t 99)),Og 101 100 false (.mov (.t 14)),Og 102 100 false (.bin .eql (.t 101) (Ci 0)),Og 103 100 false (.mov (.t 102)),Og 104 103 true (.mov (.t 13)),Og 105 103 true (.mov (.t 5)),Og 106 103 true (.bin .lss (.t 104) (.t 105)),Og 107 100 false (.pick (.t 103) (.t 106) (.c (.bool false))),Ob 108 (.pick (.t 100) (.c (.bool true)) (.t 107))])
 (.cond (.t 108) (.seq (.region [Ob 4 (.mov (.c (.bool false)))])
 (.ret))
 (.skip)))
 (.region [Ob 109 (.mov (.t 10)),Ob 110 (.mov (.t 109)),Og 111 110 false (.mov (.t 14)),Og 112 110 false (.bin .eql (.t 111) (Ci 0)),Og 113 110 false (.mov (.t 112)),Og 114 113 true (.mov (.t 13)),Og 115 113 true (.mov (.t 5)),Og 116 113 true (.bin .eql (.t 114) (.t 115)),Og 117 110 false (.pick (.t 113) (.t 116) (.c (.bool false))),Ob 118 (.pick (.t 110) (.c (.bool true)) (.t 117)),Ob 10 (.mov (.t 118))])))))
 (.region [Ob 78 (.mov (.t 11)),Ob 79 (.bin .add (.t 78) (Ci 1)),Ob 11 (.mov (.t 79))]))))))
 (.seq (.region [Ob 119 (.mov (.t 10)),Ob 120 (.mov (.t 119)),Og 121 120 true (.call 15 []),Ob 122 (.pick (.t 120) (.t 121) (.c (.bool false))),Ob 4 (.mov (.t 122))])
 (.ret)))))))))
def r7 : List Res := [.t 4]
def a7 : AFn := ⟨2, c7, r7,.v⟩
def c12 : ACode := .seq (.region [Ob 3 (.box (.t 0) 5),Ob 4 (.box (.t 1) 7),Ob 5 (.box (.t 2) 3),Ob 6 (.mov (.c (.bool false)))])
 (.seq (.seq (.region [Ob 11 (.load (.t 3) (some 5)),Ob 12 (.call 31 [(.t 11)])])
 (.cond (.t 12) (.seq (.region [Ob 13 (.call 15 []),Ob 6 (.mov (.t 13))])
 (.ret))
 (.skip)))
 (.seq (.region [Ob 15 (.load (.t 3) (some 5)),Ob 16 (.callf 16 [(.t 15)]),Ob 17 (.load (.t 4) (some 7)),Ob 18 (.addr (.t 5) 1),Ob 19 (.load (.t 18) none),Ob 20 (.addr (.t 5) 2),Ob 21 (.load (.t 20) none),Ob 22 (.call 39 [(.t 16), (.t 17), (.t 19), (.t 21)]),Ob 14 (.mov (.t 22)),Ob 23 (.ext (.t 14) 0),Ob 24 (.ext (.t 14) 1),Ob 7 (.mov (.t 23)),Ob 8 (.mov (.t 24))])
 (.seq (.region [Ob 26 (.load (.t 3) (some 5)),Ob 27 (.load (.t 4) (some 7)),Ob 28 (.addr (.t 5) 1),Ob 29 (.load (.t 28) none),Ob 30 (.addr (.t 5) 2),Ob 31 (.load (.t 30) none),Ob 32 (.call 40 [(.t 26), (.t 27), (.t 29), (.t 31)]),Ob 25 (.mov (.t 32)),Ob 33 (.ext (.t 25) 0),Ob 34 (.ext (.t 25) 1),Ob 9 (.mov (.t 33)),Ob 10 (.mov (.t 34))])
 (.seq (.region [Ob 35 (.mov (.t 7)),Ob 36 (.mov (.t 9)),Ob 37 (.call 35 [(.t 35), (.t 36)]),Ob 38 (.mov (.t 37)),Og 39 38 true (.mov (.t 8)),Og 40 38 true (.mov (.t 10)),Og 41 38 true (.bin .eql (.t 39) (.t 40)),Ob 42 (.pick (.t 38) (.t 41) (.c (.bool false))),Ob 43 (.mov (.t 42)),Og 44 43 true (.call 15 []),Ob 45 (.pick (.t 43) (.t 44) (.c (.bool false))),Ob 6 (.mov (.t 45))])
 (.ret)))))
def r12 : List Res := [.t 6]
def a12 : AFn := ⟨3, c12, r12,.v⟩
def c14 : ACode := .seq (.region [Ob 2 (.box (.t 0) 5),Ob 3 (.box (.t 1) 3),Ob 4 (.mov (.c (.bool false)))])
 (.seq (.seq (.region [Ob 9 (.load (.t 2) (some 5)),Ob 10 (.call 31 [(.t 9)]),Ob 11 (.mov (.t 10)),Og 12 11 false (.load (.t 2) (some 5)),Og 13 11 false (.call 27 [(.t 12)]),Og 14 11 false (.bin .neq (.t 13) (Ci 0)),Ob 15 (.pick (.t 11) (.c (.bool true)) (.t 14)),Ob 16 (.mov (.t 15)),Og 17 16 false (.addr (.t 3) 2),Og 18 16 false (.load (.t 17) none),Og 19 16 false (.bin .lss (.t 18) (Ci 0)),Ob 20 (.pick (.t 16) (.c (.bool true)) (.t 19)),Ob 21 (.mov (.t 20)),Og 22 21 false (.addr (.t 3) 2),Og 23 21 false (.load (.t 22) none),Og 24 21 false (.bin .gtr (.t 23) (Ci 9999)),Ob 25 (.pick (.t 21) (.c (.bool true)) (.t 24))])
 (.cond (.t 25) (.seq (.region [Ob 4 (.mov (.c (.bool false)))])
 (.ret))
 (.skip)))
 (.seq (.region [Ob 27 (.load (.t 2) (some 5)),Ob 28 (.addr (.t 3) 0),Ob 29 (.load (.t 28) none),Ob 30 (.call 21 [(.t 27), (.t 29)]),Ob 26 (.mov (.t 30)),Ob 31 (.ext (.t 26) 0),Ob 32 (.ext (.t 26) 1),Ob 5 (.new (.agg [(.int .i64 0), (.int .i64 0), (.int .i64 0), (.int .i64 0), (.int .i64 0), (.bool false), (.sl [] .tight)]) 7),On (.store (.t 5) (.t 31) 7),Ob 6 (.mov (.t 32))])
 (.seq (.region [Ob 34 (.load (.t 2) (some 5)),Ob 35 (.addr (.t 3) 1),Ob 36 (.load (.t 35) none),Ob 37 (.call 22 [(.t 34), (.t 36)]),Ob 33 (.mov (.t 37)),Ob 38 (.ext (.t 33) 0),Ob 39 (.ext (.t 33) 1),Ob 7 (.new (.agg [(.int .i64 0), (.sl [] .tight), (.sl [] .tight)]) 3),On (.store (.t 7) (.t 38) 3),Ob 8 (.mov (.t 39))])
 (.seq (.region [Ob 40 (.mov (.t 6)),Ob 41 (.mov (.t 40)),Og 42 41 true (.mov (.t 8)),Ob 43 (.pick (.t 41) (.t 42) (.c (.bool false))),Ob 4 (.mov (.t 43))])
 (.ret)))))
def r14 : List Res := [.t 4]
def a14 : AFn := ⟨2, c14, r14,.v⟩
def c15 : ACode := .seq (.region [Ob 0 (.mov (.c (.bool false)))])
 (.seq (.region [Ob 9 (.call 42 []),Ob 1 (.new (.agg [(.sl [] .tight), (.sl [] .tight), (.sl [] .tight), (.sl [] .tight), (.sl [] .tight)]) 5),On (.store (.t 1) (.t 9) 5)])
 (.seq (.region [Ob 11 (.load (.t 1) (some 5)),Ob 12 (.call 18 [(.t 11), (Ci 7), (Ci 1), (Ci 302)]),Ob 10 (.mov (.t 12)),Ob 13 (.ext (.t 10) 0),Ob 14 (.ext (.t 10) 1),Ob 15 (.ext (.t 10) 2),Ob 2 (.mov (.t 13)),Ob 3 (.mov (.t 14)),Ob 4 (.mov (.t 15))])
 (.seq (.region [Ob 17 (.load (.t 1) (some 5)),Ob 18 (.call 29 [(.t 17), (Ci 7), (Ci 1), (Ci 200)]),Ob 16 (.mov (.t 18)),Ob 19 (.ext (.t 16) 0),Ob 20 (.ext (.t 16) 1),Ob 5 (.mov (.t 19)),Ob 6 (.mov (.t 20))])
 (.seq (.region [Ob 22 (.load (.t 1) (some 5)),Ob 23 (.call 24 [(.t 22), (Ci 8), (Ci 1)]),Ob 21 (.mov (.t 23)),Ob 24 (.ext (.t 21) 0),Ob 25 (.ext (.t 21) 1),Ob 7 (.mov (.t 24)),Ob 8 (.mov (.t 25))])
 (.seq (.region [Ob 26 (.mov (.t 4)),Ob 27 (.bin .eql (.t 26) (Ci 0)),Ob 28 (.mov (.t 27)),Og 29 28 true (.mov (.t 6)),Og 30 28 true (.bin .eql (.t 29) (Ci 0)),Ob 31 (.pick (.t 28) (.t 30) (.c (.bool false))),Ob 32 (.mov (.t 31)),Og 33 32 true (.mov (.t 8)),Og 34 32 true (.bin .eql (.t 33) (Ci 0)),Ob 35 (.pick (.t 32) (.t 34) (.c (.bool false))),Ob 36 (.mov (.t 35)),Og 37 36 true (.mov (.t 2)),Og 38 36 true (.bin .eql (.t 37) (Ci 4)),Ob 39 (.pick (.t 36) (.t 38) (.c (.bool false))),Ob 40 (.mov (.t 39)),Og 41 40 true (.mov (.t 3)),Og 42 40 true (.bin .eql (.t 41) (Ci 401)),Ob 43 (.pick (.t 40) (.t 42) (.c (.bool false))),Ob 44 (.mov (.t 43)),Og 45 44 true (.mov (.t 5)),Og 46 44 true (.bin .eql (.t 45) (Ci 2)),Ob 47 (.pick (.t 44) (.t 46) (.c (.bool false))),Ob 48 (.mov (.t 47)),Og 49 48 true (.mov (.t 7)),Og 50 48 true (.lit false 3 1 [(Ci 3)]),Og 51 48 true (.call 35 [(.t 49), (.t 50)]),Ob 52 (.pick (.t 48) (.t 51) (.c (.bool false))),Ob 0 (.mov (.t 52))])
 (.ret))))))
def r15 : List Res := [.t 0]
def a15 : AFn := ⟨0, c15, r15,.v⟩
def c16 : ACode := .seq (.region [Ob 1 (.box (.t 0) 5),Ob 2 (.new (.agg [(.sl [] .tight), (.sl [] .tight), (.sl [] .tight), (.sl [] .tight), (.sl [] .tight)]) 5)])
 (.seq (.region [Ob 9 (.lit false 72 2 []),Ob 10 (.addr (.t 1) 0),Ob 11 (.load (.t 10) none),Ob 13 (.lit false 3 1 []),Ob 14 (.addr (.t 1) 4),Ob 15 (.load (.t 14) none),On (.mov (.c .undef)),Ob 12 (.app0 (.t 9) (.t 11) 72 2 16),Ob 16 (.app0 (.t 13) (.t 15) 3 1 8),Ob 17 (.build [(.sl [] .tight), (.sl [] .tight), (.sl [] .tight), (.sl [] .tight), (.sl [] .tight)] [(0, 1, (.t 12)), (4, 1, (.t 16))]),Ob 3 (.box (.t 17) 5)])
 (.seq (.seq (.region [Ob 4 (.mov (Ci 0))])
 (.block 0 (.loop (.seq (.seq (.region [Ob 18 (.mov (.t 4)),Ob 19 (.addr (.t 1) 1),Ob 20 (.load (.t 19) none),Ob 21 (.len (.t 20)),Ob 22 (.bin .lss (.t 18) (.t 21))])
 (.cond (.t 22) (.skip)
 (.exit 0)))
 (.seq (.block 1 (.seq (.region [Ob 25 (.addr (.t 1) 1),Ob 26 (.load (.t 25) none),Ob 27 (.mov (.t 4)),Ob 28 (.idx (.t 26) (.t 27) 7),Ob 29 (.load (.t 28) (some 7)),Ob 5 (.new (.agg [(.int .i64 0), (.int .i64 0), (.int .i64 0), (.int .i64 0), (.int .i64 0), (.bool false), (.sl [] .tight)]) 7),On (.store (.t 5) (.t 29) 7)])
 (.seq (.region [Ob 30 (.lit false 3 1 []),Ob 31 (.addr (.t 5) 6),Ob 32 (.load (.t 31) none),Ob 33 (.app0 (.t 30) (.t 32) 3 1 8),Ob 34 (.addr (.t 5) 6),On (.store (.t 34) (.t 33) 1)])
 (.region [Ob 35 (.addr (.t 3) 1),Ob 36 (.load (.t 35) none),Ob 37 (.load (.t 5) (some 7)),Ob 38 (.lit true 47 7 [(.t 37)]),Ob 39 (.app true (.t 36) (.t 38) 47 7 72),Ob 40 (.addr (.t 3) 1),On (.store (.t 40) (.t 39) 1)]))))
 (.region [Ob 23 (.mov (.t 4)),Ob 24 (.bin .add (.t 23) (Ci 1)),Ob 4 (.mov (.t 24))]))))))
 (.seq (.seq (.region [Ob 6 (.mov (Ci 0))])
 (.block 2 (.loop (.seq (.seq (.region [Ob 41 (.mov (.t 6)),Ob 42 (.addr (.t 1) 2),Ob 43 (.load (.t 42) none),Ob 44 (.len (.t 43)),Ob 45 (.bin .lss (.t 41) (.t 44))])
 (.cond (.t 45) (.skip)
 (.exit 2)))
 (.seq (.block 3 (.seq (.region [Ob 48 (.addr (.t 1) 2),Ob 49 (.load (.t 48) none),Ob 50 (.mov (.t 6)),Ob 51 (.idx (.t 49) (.t 50) 3),Ob 52 (.load (.t 51) (some 3)),Ob 7 (.new (.agg [(.int .i64 0), (.sl [] .tight), (.sl [] .tight)]) 3),On (.store (.t 7) (.t 52) 3)])
 (.seq (.region [Ob 53 (.lit false 3 1 []),Ob 54 (.addr (.t 7) 1),Ob 55 (.load (.t 54) none),Ob 57 (.lit false 72 2 []),Ob 58 (.addr (.t 7) 2),Ob 59 (.load (.t 58) none),Ob 56 (.app0 (.t 53) (.t 55) 3 1 8),Ob 61 (.addr (.t 7) 1),Ob 60 (.app0 (.t 57) (.t 59) 72 2 16),On (.store (.t 61) (.t 56) 1),Ob 62 (.addr (.t 7) 2),On (.store (.t 62) (.t 60) 1)])
 (.region [Ob 63 (.addr (.t 3) 2),Ob 64 (.load (.t 63) none),Ob 65 (.load (.t 7) (some 3)),Ob 66 (.lit true 51 3 [(.t 65)]),Ob 67 (.app true (.t 64) (.t 66) 51 3 56),Ob 68 (.addr (.t 3) 2),On (.store (.t 68) (.t 67) 1)]))))
 (.region [Ob 46 (.mov (.t 6)),Ob 47 (.bin .add (.t 46) (Ci 1)),Ob 6 (.mov (.t 47))]))))))
 (.seq (.seq (.region [Ob 8 (.mov (Ci 0))])
 (.block 4 (.loop (.seq (.seq (.region [Ob 69 (.mov (.t 8)),Ob 70 (.addr (.t 1) 3),Ob 71 (.load (.t 70) none),Ob 72 (.len (.t 71)),Ob 73 (.bin .lss (.t 69) (.t 72))])
 (.cond (.t 73) (.skip)
 (.exit 4)))
 (.seq (.block 5 (.region [Ob 76 (.addr (.t 3) 3),Ob 77 (.load (.t 76) none),Ob 78 (.addr (.t 1) 3),Ob 79 (.load (.t 78) none),Ob 80 (.mov (.t 8)),Ob 81 (.idx (.t 79) (.t 80) 5),Ob 82 (.load (.t 81) (some 5)),Ob 83 (.call 17 [(.t 82)]),Ob 84 (.lit true 37 5 [(.t 83)]),Ob 85 (.app true (.t 77) (.t 84) 37 5 56),Ob 86 (.addr (.t 3) 3),On (.store (.t 86) (.t 85) 1)]))
 (.region [Ob 74 (.mov (.t 8)),Ob 75 (.bin .add (.t 74) (Ci 1)),Ob 8 (.mov (.t 75))]))))))
 (.seq (.region [Ob 87 (.load (.t 3) (some 5)),On (.store (.t 2) (.t 87) 5)])
 (.ret))))))
def r16 : List Res := [.cell 2 (some 5)]
def a16 : AFn := ⟨1, c16, r16,.o⟩
def c17 : ACode := .seq (.region [Ob 1 (.box (.t 0) 5),Ob 2 (.new (.agg [(.int .i64 0), (.int .i64 0), (.sl [] .tight), (.int .i64 0), (.int .i64 0)]) 5)])
 (.seq (.region [Ob 3 (.lit false 3 1 []),Ob 4 (.addr (.t 1) 2),Ob 5 (.load (.t 4) none),Ob 6 (.app0 (.t 3) (.t 5) 3 1 8),Ob 7 (.addr (.t 1) 2),On (.store (.t 7) (.t 6) 1)])
 (.seq (.region [Ob 8 (.load (.t 1) (some 5)),On (.store (.t 2) (.t 8) 5)])
 (.ret)))
def r17 : List Res := [.cell 2 (some 5)]
def a17 : AFn := ⟨1, c17, r17,.o⟩
def c18 : ACode := .seq (.region [Ob 4 (.box (.t 0) 5),Ob 8 (.mov (Ci 0)),Ob 9 (.mov (Ci 0)),Ob 10 (.mov (Ci 0))])
 (.seq (.region [Ob 13 (.load (.t 4) (some 5)),Ob 14 (.mov (.t 1)),Ob 15 (.mov (.t 2)),Ob 16 (.mov (.t 3)),Ob 17 (.call 43 [(.t 13), (.t 14), (.t 15), (.t 16)]),Ob 12 (.mov (.t 17)),Ob 18 (.ext (.t 12) 0),Ob 19 (.ext (.t 12) 1),Ob 11 (.new (.agg [(.int .i64 0), (.int .i64 0), (.int .i64 0), (.int .i64 0), (.int .i64 0), (.bool false), (.sl [] .tight), (.sl [] .tight), (.sl [] .tight), (.sl [] .tight), (.sl [] .tight), (.sl [] .tight)]) 12),On (.store (.t 11) (.t 18) 12),Ob 10 (.mov (.t 19))])
 (.seq (.seq (.region [Ob 20 (.mov (.t 10)),Ob 21 (.bin .neq (.t 20) (Ci 0))])
 (.cond (.t 21) (.seq (.region [Ob 22 (.mov (.t 10)),Ob 8 (.mov (Ci 0)),Ob 9 (.mov (Ci 0)),Ob 10 (.mov (.t 22))])
 (.ret))
 (.skip)))
 (.seq (.region [Ob 24 (.load (.t 11) (some 12)),Ob 25 (.mov (.t 3)),Ob 26 (.call 44 [(.t 24), (.t 25)]),Ob 23 (.mov (.t 26)),Ob 27 (.ext (.t 23) 0),Ob 28 (.ext (.t 23) 1),Ob 8 (.mov (.t 27)),Ob 9 (.mov (.t 28))])
 (.seq (.region [Ob 29 (.mov (.t 8)),Ob 30 (.mov (.t 9)),Ob 8 (.mov (.t 29)),Ob 9 (.mov (.t 30)),Ob 10 (.mov (Ci 0))])
 (.ret)))))
def r18 : List Res := [.t 8,.t 9,.t 10]
def a18 : AFn := ⟨4, c18, r18,.v⟩
def c21 : ACode := .seq (.region [Ob 2 (.box (.t 0) 5),Ob 4 (.new (.agg [(.int .i64 0), (.int .i64 0), (.int .i64 0), (.int .i64 0), (.int .i64 0), (.bool false), (.sl [] .tight)]) 7),Ob 5 (.mov (.c (.bool false)))])
 (.seq (.seq (.region [Ob 6 (.mov (Ci 0))])
 (.block 0 (.loop (.seq (.seq (.region [Ob 7 (.mov (.t 6)),Ob 8 (.addr (.t 2) 1),Ob 9 (.load (.t 8) none),Ob 10 (.len (.t 9)),Ob 11 (.bin .lss (.t 7) (.t 10))])
 (.cond (.t 11) (.skip)
 (.exit 0)))
 (.seq (.block 1 (.seq (.region [Ob 14 (.addr (.t 2) 1),Ob 15 (.load (.t 14) none),Ob 16 (.mov (.t 6)),Ob 17 (.idx (.t 15) (.t 16) 7),Ob 18 (.addr (.t 17) 0),Ob 19 (.load (.t 18) none),Ob 20 (.mov (.t 1)),Ob 21 (.bin .eql (.t 19) (.t 20))])
 (.cond (.t 21) (.seq (.region [Ob 22 (.addr (.t 2) 1),Ob 23 (.load (.t 22) none),Ob 24 (.mov (.t 6)),Ob 25 (.idx (.t 23) (.t 24) 7),Ob 26 (.load (.t 25) (some 7)),On (.store (.t 4) (.t 26) 7),Ob 5 (.mov (.c (.bool true)))])
 (.ret))
 (.skip))))
 (.region [Ob 12 (.mov (.t 6)),Ob 13 (.bin .add (.t 12) (Ci 1)),Ob 6 (.mov (.t 13))]))))))
 (.seq (.region [Ob 27 (.build [(.int .i64 0), (.int .i64 0), (.int .i64 0), (.int .i64 0), (.int .i64 0), (.bool false), (.sl [] .tight)] []),On (.store (.t 4) (.t 27) 7),Ob 5 (.mov (.c (.bool false)))])
 (.ret)))
def r21 : List Res := [.cell 4 (some 7),.t 5]
def a21 : AFn := ⟨2, c21, r21,.v⟩
def c22 : ACode := .seq (.region [Ob 2 (.box (.t 0) 5),Ob 4 (.new (.agg [(.int .i64 0), (.sl [] .tight), (.sl [] .tight)]) 3),Ob 5 (.mov (.c (.bool false)))])
 (.seq (.seq (.region [Ob 6 (.mov (Ci 0))])
 (.block 0 (.loop (.seq (.seq (.region [Ob 7 (.mov (.t 6)),Ob 8 (.addr (.t 2) 2),Ob 9 (.load (.t 8) none),Ob 10 (.len (.t 9)),Ob 11 (.bin .lss (.t 7) (.t 10))])
 (.cond (.t 11) (.skip)
 (.exit 0)))
 (.seq (.block 1 (.seq (.region [Ob 14 (.addr (.t 2) 2),Ob 15 (.load (.t 14) none),Ob 16 (.mov (.t 6)),Ob 17 (.idx (.t 15) (.t 16) 3),Ob 18 (.addr (.t 17) 0),Ob 19 (.load (.t 18) none),Ob 20 (.mov (.t 1)),Ob 21 (.bin .eql (.t 19) (.t 20))])
 (.cond (.t 21) (.seq (.region [Ob 22 (.addr (.t 2) 2),Ob 23 (.load (.t 22) none),Ob 24 (.mov (.t 6)),Ob 25 (.idx (.t 23) (.t 24) 3),Ob 26 (.load (.t 25) (some 3)),On (.store (.t 4) (.t 26) 3),Ob 5 (.mov (.c (.bool true)))])
 (.ret))
 (.skip))))
 (.region [Ob 12 (.mov (.t 6)),Ob 13 (.bin .add (.t 12) (Ci 1)),Ob 6 (.mov (.t 13))]))))))
 (.seq (.region [Ob 27 (.build [(.int .i64 0), (.sl [] .tight), (.sl [] .tight)] []),On (.store (.t 4) (.t 27) 3),Ob 5 (.mov (.c (.bool false)))])
 (.ret)))
def r22 : List Res := [.cell 4 (some 3),.t 5]
def a22 : AFn := ⟨2, c22, r22,.v⟩
def c23 : ACode := .seq (.region [Ob 3 (.box (.t 0) 5),Ob 6 (.mov (.c (.sl [] .tight))),Ob 7 (.mov (Ci 0))])
 (.seq (.region [Ob 11 (.load (.t 3) (some 5)),Ob 12 (.mov (.t 1)),Ob 13 (.mov (.t 2)),Ob 14 (.call 54 [(.t 11), (.t 12), (.t 13)]),Ob 10 (.mov (.t 14)),Ob 15 (.ext (.t 10) 0),Ob 16 (.ext (.t 10) 1),Ob 8 (.new (.agg [(.int .i64 0), (.int .i64 0), (.int .i64 0), (.int .i64 0), (.int .i64 0), (.bool false), (.sl [] .tight), (.sl [] .tight), (.sl [] .tight), (.sl [] .tight), (.sl [] .tight), (.sl [] .tight)]) 12),On (.store (.t 8) (.t 15) 12),Ob 9 (.mov (.t 16))])
 (.seq (.region [Ob 17 (.addr (.t 8) 11),Ob 18 (.load (.t 17) none),Ob 19 (.mov (.t 9)),Ob 6 (.mov (.t 18)),Ob 7 (.mov (.t 19))])
 (.ret)))
def r23 : List Res := [.t 6,.t 7]
def a23 : AFn := ⟨3, c23, r23,.v⟩
def c24 : ACode := .seq (.region [Ob 3 (.box (.t 0) 5),Ob 6 (.mov (.c (.sl [] .tight))),Ob 7 (.mov (Ci 0))])
 (.seq (.region [Ob 11 (.load (.t 3) (some 5)),Ob 12 (.mov (.t 1)),Ob 13 (.mov (.t 2)),Ob 14 (.call 54 [(.t 11), (.t 12), (.t 13)]),Ob 10 (.mov (.t 14)),Ob 15 (.ext (.t 10) 0),Ob 16 (.ext (.t 10) 1),Ob 8 (.new (.agg [(.int .i64 0), (.int .i64 0), (.int .i64 0), (.int .i64 0), (.int .i64 0), (.bool false), (.sl [] .tight), (.sl [] .tight), (.sl [] .tight), (.sl [] .tight), (.sl [] .tight), (.sl [] .tight)]) 12),On (.store (.t 8) (.t 15) 12),Ob 9 (.mov (.t 16))])
 (.seq (.region [Ob 17 (.addr (.t 8) 8),Ob 18 (.load (.t 17) none),Ob 19 (.mov (.t 9)),Ob 6 (.mov (.t 18)),Ob 7 (.mov (.t 19))])
 (.ret)))
def r24 : List Res := [.t 6,.t 7]
def a24 : AFn := ⟨3, c24, r24,.v⟩
def c25 : ACode := .seq (.region [Ob 4 (.mov (.c (.bool false)))])
 (.seq (.seq (.region [Ob 5 (.mov (Ci 0))])
 (.block 0 (.loop (.seq (.seq (.region [Ob 6 (.mov (.t 5)),Ob 7 (.mov (.t 0)),Ob 8 (.len (.t 7)),Ob 9 (.bin .lss (.t 6) (.t 8))])
 (.cond (.t 9) (.skip)
 (.exit 0)))
 (.seq (.block 1 (.seq (.region [Ob 12 (.mov (.t 0)),Ob 13 (.mov (.t 5)),Ob 14 (.idx (.t 12) (.t 13) 2),Ob 15 (.addr (.t 14) 0),Ob 16 (.load (.t 15) none),Ob 17 (.mov (.t 1)),Ob 18 (.bin .leq (.t 16) (.t 17)),Ob 19 (.mov (.t 18)),Og 20 19 true (.mov (.t 1)),Og 21 19 true (.mov (.t 0)),Og 22 19 true (.mov (.t 5)),Og 23 19 true (.idx (.t 21) (.t 22) 2),Og 24 19 true (.addr (.t 23) 1),Og 25 19 true (.load (.t 24) none),Og 26 19 true (.bin .leq (.t 20) (.t 25)),Ob 27 (.pick (.t 19) (.t 26) (.c (.bool false)))])
 (.cond (.t 27) (.seq (.region [Ob 4 (.mov (.c (.bool true)))])
 (.ret))
 (.skip))))
 (.region [Ob 10 (.mov (.t 5)),Ob 11 (.bin .add (.t 10) (Ci 1)),Ob 5 (.mov (.t 11))]))))))
 (.seq (.region [Ob 4 (.mov (.c (.bool false)))])
 (.ret)))
def r25 : List Res := [.t 4]
def a25 : AFn := ⟨2, c25, r25,.v⟩
def c26 : ACode := .seq (.region [Ob 4 (.mov (.c (.bool false)))])
 (.seq (.seq (.region [Ob 5 (.mov (Ci 0))])
 (.block 0 (.loop (.seq (.seq (.region [Ob 6 (.mov (.t 5)),Ob 7 (.mov (.t 0)),Ob 8 (.len (.t 7)),Ob 9 (.bin .lss (.t 6) (.t 8))])
 (.cond (.t 9) (.skip)
 (.exit 0)))
 (.seq (.block 1 (.seq (.region [Ob 12 (.mov (.t 0)),Ob 13 (.mov (.t 5)),Ob 14 (.idx (.t 12) (.t 13) 1),Ob 15 (.load (.t 14) none),Ob 16 (.mov (.t 1)),Ob 17 (.bin .eql (.t 15) (.t 16))])
 (.cond (.t 17) (.seq (.region [Ob 4 (.mov (.c (.bool true)))])
 (.ret))
 (.skip))))
 (.region [Ob 10 (.mov (.t 5)),Ob 11 (.bin .add (.t 10) (Ci 1)),Ob 5 (.mov (.t 11))]))))))
 (.seq (.region [Ob 4 (.mov (.c (.bool false)))])
 (.ret)))
def r26 : List Res := [.t 4]
def a26 : AFn := ⟨2, c26, r26,.v⟩
def c27 : ACode := .seq (.region [Ob 1 (.box (.t 0) 5),Ob 2 (.mov (Ci 0))])
 (.seq (.seq (.region [Ob 3 (.load (.t 1) (some 5)),Ob 4 (.call 55 [(.t 3)]),Ob 5 (.not (.t 4))])
 (.cond (.t 5) (.seq (.region [Ob 2 (.mov (Ci 20))])
 (.ret))
 (.skip)))
 (.seq (.seq (.region [Ob 6 (.addr (.t 1) 3),Ob 7 (.load (.t 6) none),Ob 8 (.call 56 [(.t 7)])])
 (.cond (.t 8) (.seq (.region [Ob 2 (.mov (Ci 21))])
 (.ret))
 (.skip)))
 (.seq (.region [Ob 2 (.mov (Ci 0))])
 (.ret))))
def r27 : List Res := [.t 2]
def a27 : AFn := ⟨1, c27, r27,.v⟩
def c28 : ACode := .seq (.region [Ob 4 (.box (.t 0) 5),Ob 7 (.box (.t 3) 1),Ob 8 (.mov (Ci 0)),Ob 9 (.mov (Ci 0))])
 (.seq (.region [Ob 16 (.load (.t 4) (some 5)),Ob 17 (.mov (.t 1)),Ob 18 (.mov (.t 2)),Ob 19 (.load (.t 7) none),Ob 20 (.call 43 [(.t 16), (.t 17), (.t 18), (.t 19)]),Ob 15 (.mov (.t 20)),Ob 21 (.ext (.t 15) 0),Ob 22 (.ext (.t 15) 1),Ob 10 (.new (.agg [(.int .i64 0), (.int .i64 0), (.int .i64 0), (.int .i64 0), (.int .i64 0), (.bool false), (.sl [] .tight), (.sl [] .tight), (.sl [] .tight), (.sl [] .tight), (.sl [] .tight), (.sl [] .tight)]) 12),On (.store (.t 10) (.t 21) 12),Ob 11 (.mov (.t 22))])
 (.seq (.seq (.region [Ob 23 (.mov (.t 11)),Ob 24 (.bin .neq (.t 23) (Ci 0))])
 (.cond (.t 24) (.seq (.region [Ob 25 (.mov (.t 11)),Ob 8 (.mov (Ci 0)),Ob 9 (.mov (.t 25))])
 (.ret))
 (.skip)))
 (.seq (.region [Ob 26 (.clo 57 [] [(.t 10), (.t 7)]),Ob 12 (.mov (.t 26))])
 (.seq (.region [Ob 28 (.addr (.t 10) 11),Ob 29 (.load (.t 28) none),Ob 30 (.mov (.t 12)),Ob 31 (.call 59 [(.t 29), (.t 30)]),Ob 27 (.mov (.t 31)),Ob 32 (.ext (.t 27) 0),Ob 33 (.ext (.t 27) 1),Ob 13 (.new (.agg [(.int .i64 0), (.int .i64 0)]) 2),On (.store (.t 13) (.t 32) 2),Ob 14 (.mov (.t 33))])
 (.seq (.seq (.region [Ob 34 (.mov (.t 14)),Ob 35 (.not (.t 34))])
 (.cond (.t 35) (.seq (.region [Ob 8 (.mov (Ci 0)),Ob 9 (.mov (Ci 3))])
 (.ret))
 (.skip)))
 (.seq (.region [Ob 36 (.addr (.t 13) 0),Ob 37 (.load (.t 36) none),Ob 38 (.load (.t 7) none),Ob 39 (.mnx true (.t 37) (.t 38)),Ob 8 (.mov (.t 39)),Ob 9 (.mov (Ci 0))])
 (.ret)))))))
def r28 : List Res := [.t 8,.t 9]
def a28 : AFn := ⟨4, c28, r28,.v⟩
def c29 : ACode := .seq (.region [Ob 4 (.box (.t 0) 5),Ob 8 (.mov (Ci 0)),Ob 9 (.mov (Ci 0))])
 (.seq (.region [Ob 13 (.load (.t 4) (some 5)),Ob 14 (.mov (.t 1)),Ob 15 (.mov (.t 2)),Ob 16 (.mov (.t 3)),Ob 17 (.call 43 [(.t 13), (.t 14), (.t 15), (.t 16)]),Ob 12 (.mov (.t 17)),Ob 18 (.ext (.t 12) 0),Ob 19 (.ext (.t 12) 1),Ob 10 (.new (.agg [(.int .i64 0), (.int .i64 0), (.int .i64 0), (.int .i64 0), (.int .i64 0), (.bool false), (.sl [] .tight), (.sl [] .tight), (.sl [] .tight), (.sl [] .tight), (.sl [] .tight), (.sl [] .tight)]) 12),On (.store (.t 10) (.t 18) 12),Ob 11 (.mov (.t 19))])
 (.seq (.seq (.region [Ob 20 (.mov (.t 11)),Ob 21 (.bin .neq (.t 20) (Ci 0))])
 (.cond (.t 21) (.seq (.region [Ob 22 (.mov (.t 11)),Ob 8 (.mov (Ci 0)),Ob 9 (.mov (.t 22))])
 (.ret))
 (.skip)))
 (.seq (.seq (.region [Ob 23 (.load (.t 10) (some 12)),Ob 24 (.mov (.t 3)),Ob 25 (.call 58 [(.t 23), (.t 24)]),Ob 26 (.not (.t 25))])
 (.cond (.t 26) (.seq (.region [Ob 8 (.mov (Ci 0)),Ob 9 (.mov (Ci 3))])
 (.ret))
 (.skip)))
 (.seq (.region [Ob 27 (.load (.t 10) (some 12)),Ob 28 (.mov (.t 3)),Ob 29 (.call 60 [(.t 27), (.t 28)]),Ob 8 (.mov (.t 29)),Ob 9 (.mov (Ci 0))])
 (.ret)))))
def r29 : List Res := [.t 8,.t 9]
def a29 : AFn := ⟨4, c29, r29,.v⟩
def c30 : ACode := .seq (.region [Ob 2 (.box (.t 0) 5),Ob 4 (.new (.agg [(.sl [] .tight), (.sl [] .tight), (.sl [] .tight), (.sl [] .tight), (.sl [] .tight)]) 5),Ob 5 (.mov (Ci 0))])
 (.seq (.region [Ob 7 (.load (.t 2) (some 5)),Ob 8 (.callf 16 [(.t 7)]),On (.store (.t 4) (.t 8) 5)])
 (.seq (.region [Ob 9 (.addr (.t 4) 3),On (.store (.t 9) (.c (.sl [] .tight)) 1)])
 (.seq (.seq (.region [Ob 6 (.mov (Ci 0))])
 (.block 0 (.loop (.seq (.seq (.region [Ob 10 (.mov (.t 6)),Ob 11 (.addr (.t 2) 3),Ob 12 (.load (.t 11) none),Ob 13 (.len (.t 12)),Ob 14 (.bin .lss (.t 10) (.t 13))])
 (.cond (.t 14) (.skip)
 (.exit 0)))
 (.seq (.block 1 (.seq (.region [Ob 17 (.mov (.t 1)),Ob 18 (.mov (.t 6)),Ob 19 (.conv .u64 (.t 18)),Ob 20 (.bin .shr (.t 17) (.t 19)),Ob 21 (.bin .and (.t 20) (Ci 1)),Ob 22 (.bin .eql (.t 21) (Ci 1))])
 (.cond (.t 22) (.seq (.region [Ob 23 (.addr (.t 4) 3),Ob 24 (.load (.t 23) none),Ob 25 (.addr (.t 2) 3),Ob 26 (.load (.t 25) none),Ob 27 (.mov (.t 6)),Ob 28 (.idx (.t 26) (.t 27) 5),Ob 29 (.load (.t 28) (some 5)),Ob 30 (.callf 17 [(.t 29)]),Ob 31 (.lit false 37 5 [(.t 30)]),Ob 32 (.app false (.t 24) (.t 31) 37 5 56),Ob 33 (.addr (.t 4) 3),On (.store (.t 33) (.t 32) 1)])
 (.region [Ob 34 (.mov (.t 5)),Ob 35 (.bin .add (.t 34) (Ci 1)),Ob 5 (.mov (.t 35))]))
 (.skip))))
 (.region [Ob 15 (.mov (.t 6)),Ob 16 (.bin .add (.t 15) (Ci 1)),Ob 6 (.mov (.t 16))]))))))
 (.seq (.region [Ob 36 (.load (.t 4) (some 5)),Ob 37 (.mov (.t 5)),On (.store (.t 4) (.t 36) 5),Ob 5 (.mov (.t 37))])
 (.ret)))))
def r30 : List Res := [.cell 4 (some 5),.t 5]
def a30 : AFn := ⟨2, c30, r30,.v⟩
def c31 : ACode := .seq (.region [Ob 1 (.box (.t 0) 5),Ob 2 (.mov (.c (.bool false)))])
 (.seq (.seq (.region [Ob 6 (.addr (.t 1) 0),Ob 7 (.load (.t 6) none),Ob 8 (.len (.t 7)),Ob 9 (.bin .gtr (.t 8) (Ci 50)),Ob 10 (.mov (.t 9)),Og 11 10 false (.addr (.t 1) 1),Og 12 10 false (.load (.t 11) none),Og 13 10 false (.len (.t 12)),Og 14 10 false (.bin .gtr (.t 13) (Ci 30)),Ob 15 (.pick (.t 10) (.c (.bool true)) (.t 14)),Ob 16 (.mov (.t 15)),Og 17 16 false (.addr (.t 1) 2),Og 18 16 false (.load (.t 17) none),Og 19 16 false (.len (.t 18)),Og 20 16 false (.bin .gtr (.t 19) (Ci 30)),Ob 21 (.pick (.t 16) (.c (.bool true)) (.t 20)),Ob 22 (.mov (.t 21)),Og 23 22 false (.addr (.t 1) 3),Og 24 22 false (.load (.t 23) none),Og 25 22 false (.len (.t 24)),Og 26 22 false (.bin .gtr (.t 25) (Ci 50)),Ob 27 (.pick (.t 22) (.c (.bool true)) (.t 26)),Ob 28 (.mov (.t 27)),Og 29 28 false (.addr (.t 1) 4),Og 30 28 false (.load (.t 29) none),Og 31 28 false (.len (.t 30)),Og 32 28 false (.bin .gtr (.t 31) (Ci 50)),Ob 33 (.pick (.t 28) (.c (.bool true)) (.t 32))])
 (.cond (.t 33) (.seq (.region [Ob 2 (.mov (.c (.bool true)))])
 (.ret))
 (.skip)))
 (.seq (.seq (.region [Ob 3 (.mov (Ci 0))])
 (.block 0 (.loop (.seq (.seq (.region [Ob 34 (.mov (.t 3)),Ob 35 (.addr (.t 1) 1),Ob 36 (.load (.t 35) none),Ob 37 (.len (.t 36)),Ob 38 (.bin .lss (.t 34) (.t 37))])
 (.cond (.t 38) (.skip)
 (.exit 0)))
 (.seq (.block 1 (.seq (.region [Ob 41 (.addr (.t 1) 1),Ob 42 (.load (.t 41) none),Ob 43 (.mov (.t 3)),Ob 44 (.idx (.t 42) (.t 43) 7),Ob 45 (.addr (.t 44) 6),Ob 46 (.load (.t 45) none),Ob 47 (.len (.t 46)),Ob 48 (.bin .gtr (.t 47) (Ci 50))])
 (.cond (.t 48) (.seq (.region [Ob 2 (.mov (.c (.bool true)))])
 (.ret))
 (.skip))))
 (.region [Ob 39 (.mov (.t 3)),Ob 40 (.bin .add (.t 39) (Ci 1)),Ob 3 (.mov (.t 40))]))))))
 (.seq (.seq (.region [Ob 4 (.mov (Ci 0))])
 (.block 2 (.loop (.seq (.seq (.region [Ob 49 (.mov (.t 4)),Ob 50 (.addr (.t 1) 2),Ob 51 (.load (.t 50) none),Ob 52 (.len (.t 51)),Ob 53 (.bin .lss (.t 49) (.t 52))])
 (.cond (.t 53) (.skip)
 (.exit 2)))
 (.seq (.block 3 (.seq (.region [Ob 56 (.addr (.t 1) 2),Ob 57 (.load (.t 56) none),Ob 58 (.mov (.t 4)),Ob 59 (.idx (.t 57) (.t 58) 3),Ob 60 (.addr (.t 59) 1),Ob 61 (.load (.t 60) none),Ob 62 (.len (.t 61)),Ob 63 (.bin .gtr (.t 62) (Ci 50)),Ob 64 (.mov (.t 63)),Og 65 64 false (.addr (.t 1) 2),Og 66 64 false (.load (.t 65) none),Og 67 64 false (.mov (.t 4)),Og 68 64 false (.idx (.t 66) (.t 67) 3),Og 69 64 false (.addr (.t 68) 2),Og 70 64 false (.load (.t 69) none),Og 71 64 false (.len (.t 70)),Og 72 64 false (.bin .gtr (.t 71) (Ci 50)),Ob 73 (.pick (.t 64) (.c (.bool true)) (.t 72))])
 (.cond (.t 73) (.seq (.region [Ob 2 (.mov (.c (.bool true)))])
 (.ret))
 (.skip))))
 (.region [Ob 54 (.mov (.t 4)),Ob 55 (.bin .add (.t 54) (Ci 1)),Ob 4 (.mov (.t 55))]))))))
 (.seq (.seq (.region [Ob 5 (.mov (Ci 0))])
 (.block 4 (.loop (.seq (.seq (.region [Ob 74 (.mov (.t 5)),Ob 75 (.addr (.t 1) 3),Ob 76 (.load (.t 75) none),Ob 77 (.len (.t 76)),Ob 78 (.bin .lss (.t 74) (.t 77))])
 (.cond (.t 78) (.skip)
 (.exit 4)))
 (.seq (.block 5 (.seq (.region [Ob 81 (.addr (.t 1) 3),Ob 82 (.load (.t 81) none),Ob 83 (.mov (.t 5)),Ob 84 (.idx (.t 82) (.t 83) 5),Ob 85 (.addr (.t 84) 2),Ob 86 (.load (.t 85) none),Ob 87 (.len (.t 86)),Ob 88 (.bin .gtr (.t 87) (Ci 50))])
 (.cond (.t 88) (.seq (.region [Ob 2 (.mov (.c (.bool true)))])
 (.ret))
 (.skip))))
 (.region [Ob 79 (.mov (.t 5)),Ob 80 (.bin .add (.t 79) (Ci 1)),Ob 5 (.mov (.t 80))]))))))
 (.seq (.region [Ob 2 (.mov (.c (.bool false)))])
 (.ret))))))
def r31 : List Res := [.t 2]
def a31 : AFn := ⟨1, c31, r31,.v⟩
def c32 : ACode := .seq (.region [Ob 1 (.box (.t 0) 5),Ob 2 (.mov (Ci 0))])
 (.seq (.block 0 (.seq (.region [Ob 4 (.load (.t 1) (some 5)),Ob 5 (.call 61 [(.t 4)]),Ob 6 (.not (.t 5)),Ob 3 (.mov (.t 6))])
 (.cond (.t 3) (.seq (.region [Ob 2 (.mov (Ci 20))])
 (.ret))
 (.seq (.region [Ob 8 (.addr (.t 1) 3),Ob 9 (.load (.t 8) none),Ob 10 (.call 50 [(.t 9)]),Ob 7 (.mov (.t 10))])
 (.cond (.t 7) (.seq (.region [Ob 2 (.mov (Ci 21))])
 (.ret))
 (.skip))))))
 (.seq (.region [Ob 2 (.mov (Ci 0))])
 (.ret)))
def r32 : List Res := [.t 2]
def a32 : AFn := ⟨1, c32, r32,.v⟩
def c33 : ACode := .seq (.region [Ob 3 (.box (.t 0) 5),Ob 6 (.mov (.c (.sl [] .tight))),Ob 7 (.mov (Ci 0))])
 (.seq (.seq (.region [Ob 13 (.load (.t 3) (some 5)),Ob 14 (.mov (.t 1)),Ob 15 (.mov (.t 2)),Ob 16 (.call 62 [(.t 13), (.t 14), (.t 15), (Ci 0)]),Ob 8 (.mov (.t 16))])
 (.seq (.region [Ob 17 (.mov (.t 8)),Ob 18 (.bin .neq (.t 17) (Ci 0))])
 (.cond (.t 18) (.seq (.region [Ob 19 (.mov (.t 8)),Ob 6 (.mov (.c (.sl [] .tight))),Ob 7 (.mov (.t 19))])
 (.ret))
 (.skip))))
 (.seq (.region [Ob 21 (.load (.t 3) (some 5)),Ob 22 (.mov (.t 1)),Ob 23 (.call 21 [(.t 21), (.t 22)]),Ob 20 (.mov (.t 23)),Ob 24 (.ext (.t 20) 0),Ob 25 (.ext (.t 20) 1),Ob 9 (.new (.agg [(.int .i64 0), (.int .i64 0), (.int .i64 0), (.int .i64 0), (.int .i64 0), (.bool false), (.sl [] .tight)]) 7),On (.store (.t 9) (.t 24) 7),Ob 10 (.mov (.t 25))])
 (.seq (.region [Ob 27 (.load (.t 3) (some 5)),Ob 28 (.mov (.t 2)),Ob 29 (.call 22 [(.t 27), (.t 28)]),Ob 26 (.mov (.t 29)),Ob 30 (.ext (.t 26) 0),Ob 31 (.ext (.t 26) 1),Ob 11 (.new (.agg [(.int .i64 0), (.sl [] .tight), (.sl [] .tight)]) 3),On (.store (.t 11) (.t 30) 3),Ob 12 (.mov (.t 31))])
 (.seq (.region [Ob 32 (.load (.t 3) (some 5)),Ob 33 (.load (.t 9) (some 7)),Ob 34 (.load (.t 11) (some 3)),Ob 35 (.call 63 [(.t 32), (.t 33), (.t 34)]),Ob 6 (.mov (.t 35)),Ob 7 (.mov (Ci 0))])
 (.ret)))))
def r33 : List Res := [.t 6,.t 7]
def a33 : AFn := ⟨3, c33, r33,.v⟩
def c35 : ACode := .seq (.region [Ob 4 (.mov (.c (.bool false)))])
 (.seq (.seq (.region [Ob 6 (.mov (.t 0)),Ob 7 (.len (.t 6)),Ob 8 (.mov (.t 1)),Ob 9 (.len (.t 8)),Ob 10 (.bin .neq (.t 7) (.t 9))])
 (.cond (.t 10) (.seq (.region [Ob 4 (.mov (.c (.bool false)))])
 (.ret))
 (.skip)))
 (.seq (.seq (.region [Ob 5 (.mov (Ci 0))])
 (.block 0 (.loop (.seq (.seq (.region [Ob 11 (.mov (.t 5)),Ob 12 (.mov (.t 0)),Ob 13 (.len (.t 12)),Ob 14 (.bin .lss (.t 11) (.t 13))])
 (.cond (.t 14) (.skip)
 (.exit 0)))
 (.seq (.block 1 (.seq (.region [Ob 17 (.mov (.t 0)),Ob 18 (.mov (.t 5)),Ob 19 (.idx (.t 17) (.t 18) 1),Ob 20 (.load (.t 19) none),Ob 21 (.mov (.t 1)),Ob 22 (.mov (.t 5)),Ob 23 (.idx (.t 21) (.t 22) 1),Ob 24 (.load (.t 23) none),Ob 25 (.bin .neq (.t 20) (.t 24))])
 (.cond (.t 25) (.seq (.region [Ob 4 (.mov (.c (.bool false)))])
 (.ret))
 (.skip))))
 (.region [Ob 15 (.mov (.t 5)),Ob 16 (.bin .add (.t 15) (Ci 1)),Ob 5 (.mov (.t 16))]))))))
 (.seq (.region [Ob 4 (.mov (.c (.bool true)))])
 (.ret))))
def r35 : List Res := [.t 4]
def a35 : AFn := ⟨2, c35, r35,.v⟩
def c36 : ACode := .seq (.region [Ob 4 (.box (.t 0) 5),Ob 8 (.mov (Ci 0)),Ob 9 (.mov (Ci 0)),Ob 10 (.mov (Ci 0))])
 (.seq (.seq (.region [Ob 16 (.load (.t 4) (some 5)),Ob 17 (.mov (.t 1)),Ob 18 (.mov (.t 2)),Ob 19 (.mov (.t 3)),Ob 20 (.call 62 [(.t 16), (.t 17), (.t 18), (.t 19)]),Ob 11 (.mov (.t 20))])
 (.seq (.region [Ob 21 (.mov (.t 11)),Ob 22 (.bin .neq (.t 21) (Ci 0))])
 (.cond (.t 22) (.seq (.region [Ob 23 (.mov (.t 11)),Ob 8 (.mov (Ci 0)),Ob 9 (.mov (Ci 0)),Ob 10 (.mov (.t 23))])
 (.ret))
 (.skip))))
 (.seq (.region [Ob 25 (.load (.t 4) (some 5)),Ob 26 (.mov (.t 1)),Ob 27 (.call 21 [(.t 25), (.t 26)]),Ob 24 (.mov (.t 27)),Ob 28 (.ext (.t 24) 0),Ob 29 (.ext (.t 24) 1),Ob 12 (.new (.agg [(.int .i64 0), (.int .i64 0), (.int .i64 0), (.int .i64 0), (.int .i64 0), (.bool false), (.sl [] .tight)]) 7),On (.store (.t 12) (.t 28) 7),Ob 13 (.mov (.t 29))])
 (.seq (.region [Ob 31 (.load (.t 4) (some 5)),Ob 32 (.mov (.t 2)),Ob 33 (.call 22 [(.t 31), (.t 32)]),Ob 30 (.mov (.t 33)),Ob 34 (.ext (.t 30) 0),Ob 35 (.ext (.t 30) 1),Ob 14 (.new (.agg [(.int .i64 0), (.sl [] .tight), (.sl [] .tight)]) 3),On (.store (.t 14) (.t 34) 3),Ob 15 (.mov (.t 35))])
 (.seq (.region [Ob 37 (.load (.t 4) (some 5)),Ob 38 (.load (.t 12) (some 7)),Ob 39 (.load (.t 14) (some 3)),Ob 40 (.mov (.t 3)),Ob 41 (.call 65 [(.t 37), (.t 38), (.t 39), (.t 40)]),Ob 36 (.mov (.t 41)),Ob 42 (.ext (.t 36) 0),Ob 43 (.ext (.t 36) 1),Ob 8 (.mov (.t 42)),Ob 9 (.mov (.t 43))])
 (.seq (.region [Ob 44 (.mov (.t 8)),Ob 45 (.mov (.t 9)),Ob 8 (.mov (.t 44)),Ob 9 (.mov (.t 45)),Ob 10 (.mov (Ci 0))])
 (.ret))))))
def r36 : List Res := [.t 8,.t 9,.t 10]
def a36 : AFn := ⟨4, c36, r36,.v⟩
def c37 : ACode := .seq (.region [Ob 4 (.box (.t 0) 5),Ob 8 (.mov (Ci 0)),Ob 9 (.mov (Ci 0))])
 (.seq (.seq (.region [Ob 18 (.load (.t 4) (some 5)),Ob 19 (.mov (.t 1)),Ob 20 (.mov (.t 2)),Ob 21 (.mov (.t 3)),Ob 22 (.call 62 [(.t 18), (.t 19), (.t 20), (.t 21)]),Ob 10 (.mov (.t 22))])
 (.seq (.region [Ob 23 (.mov (.t 10)),Ob 24 (.bin .neq (.t 23) (Ci 0))])
 (.cond (.t 24) (.seq (.region [Ob 25 (.mov (.t 10)),Ob 8 (.mov (Ci 0)),Ob 9 (.mov (.t 25))])
 (.ret))
 (.skip))))
 (.seq (.region [Ob 27 (.load (.t 4) (some 5)),Ob 28 (.mov (.t 1)),Ob 29 (.call 21 [(.t 27), (.t 28)]),Ob 26 (.mov (.t 29)),Ob 30 (.ext (.t 26) 0),Ob 31 (.ext (.t 26) 1),Ob 11 (.new (.agg [(.int .i64 0), (.int .i64 0), (.int .i64 0), (.int .i64 0), (.int .i64 0), (.bool false), (.sl [] .tight)]) 7),On (.store (.t 11) (.t 30) 7),Ob 12 (.mov (.t 31))])
 (.seq (.region [Ob 33 (.load (.t 4) (some 5)),Ob 34 (.mov (.t 2)),Ob 35 (.call 22 [(.t 33), (.t 34)]),Ob 32 (.mov (.t 35)),Ob 36 (.ext (.t 32) 0),Ob 37 (.ext (.t 32) 1),Ob 13 (.new (.agg [(.int .i64 0), (.sl [] .tight), (.sl [] .tight)]) 3),On (.store (.t 13) (.t 36) 3),Ob 14 (.mov (.t 37))])
 (.seq (.seq (.region [Ob 38 (.load (.t 4) (some 5)),Ob 39 (.load (.t 11) (some 7)),Ob 40 (.load (.t 13) (some 3)),Ob 41 (.call 63 [(.t 38), (.t 39), (.t 40)]),Ob 42 (.len (.t 41)),Ob 43 (.bin .gtr (.t 42) (Ci 0))])
 (.cond (.t 43) (.seq (.region [Ob 8 (.mov (Ci 0)),Ob 9 (.mov (Ci 3))])
 (.ret))
 (.skip)))
 (.seq (.region [Ob 44 (.load (.t 4) (some 5)),Ob 45 (.load (.t 11) (some 7)),Ob 46 (.load (.t 13) (some 3)),Ob 47 (.call 64 [(.t 44), (.t 45), (.t 46)]),Ob 15 (.mov (.t 47))])
 (.seq (.region [Ob 16 (.mov (Ci 0))])
 (.seq (.seq (.region [Ob 48 (.mov (.t 3)),Ob 17 (.mov (.t 48))])
 (.block 0 (.loop (.seq (.seq (.region [Ob 49 (.mov (.t 17)),Ob 50 (.mov (.t 15)),Ob 51 (.len (.t 50)),Ob 52 (.bin .lss (.t 49) (.t 51))])
 (.cond (.t 52) (.skip)
 (.exit 0)))
 (.seq (.block 1 (.seq (.region [Ob 55 (.mov (.t 16)),Ob 56 (.bin .add (.t 55) (Ci 1)),Ob 16 (.mov (.t 56))])
 (.seq (.seq (.region [Ob 57 (.mov (.t 15)),Ob 58 (.mov (.t 17)),Ob 59 (.idx (.t 57) (.t 58) 1),Ob 60 (.load (.t 59) none),Ob 61 (.not (.t 60))])
 (.cond (.t 61) (.region [Ob 16 (.mov (Ci 0))])
 (.skip)))
 (.seq (.region [Ob 62 (.mov (.t 16)),Ob 63 (.addr (.t 11) 4),Ob 64 (.load (.t 63) none),Ob 65 (.bin .geq (.t 62) (.t 64))])
 (.cond (.t 65) (.seq (.region [Ob 66 (.mov (.t 17)),Ob 67 (.addr (.t 11) 4),Ob 68 (.load (.t 67) none),Ob 69 (.bin .sub (.t 66) (.t 68)),Ob 70 (.bin .add (.t 69) (Ci 1)),Ob 8 (.mov (.t 70)),Ob 9 (.mov (Ci 0))])
 (.ret))
 (.skip))))))
 (.region [Ob 53 (.mov (.t 17)),Ob 54 (.bin .add (.t 53) (Ci 1)),Ob 17 (.mov (.t 54))]))))))
 (.seq (.region [Ob 8 (.mov (Ci 0)),Ob 9 (.mov (Ci 3))])
 (.ret)))))))))
def r37 : List Res := [.t 8,.t 9]
def a37 : AFn := ⟨4, c37, r37,.v⟩
def c38 : ACode := .seq (.region [Ob 4 (.box (.t 0) 5),Ob 8 (.mov (Ci 0)),Ob 9 (.mov (Ci 0))])
 (.seq (.seq (.region [Ob 22 (.load (.t 4) (some 5)),Ob 23 (.mov (.t 1)),Ob 24 (.mov (.t 2)),Ob 25 (.mov (.t 3)),Ob 26 (.call 62 [(.t 22), (.t 23), (.t 24), (.t 25)]),Ob 10 (.mov (.t 26))])
 (.seq (.region [Ob 27 (.mov (.t 10)),Ob 28 (.bin .neq (.t 27) (Ci 0))])
 (.cond (.t 28) (.seq (.region [Ob 29 (.mov (.t 10)),Ob 8 (.mov (Ci 0)),Ob 9 (.mov (.t 29))])
 (.ret))
 (.skip))))
 (.seq (.region [Ob 31 (.load (.t 4) (some 5)),Ob 32 (.mov (.t 1)),Ob 33 (.call 21 [(.t 31), (.t 32)]),Ob 30 (.mov (.t 33)),Ob 34 (.ext (.t 30) 0),Ob 35 (.ext (.t 30) 1),Ob 11 (.new (.agg [(.int .i64 0), (.int .i64 0), (.int .i64 0), (.int .i64 0), (.int .i64 0), (.bool false), (.sl [] .tight)]) 7),On (.store (.t 11) (.t 34) 7),Ob 12 (.mov (.t 35))])
 (.seq (.region [Ob 37 (.load (.t 4) (some 5)),Ob 38 (.mov (.t 2)),Ob 39 (.call 22 [(.t 37), (.t 38)]),Ob 36 (.mov (.t 39)),Ob 40 (.ext (.t 36) 0),Ob 41 (.ext (.t 36) 1),Ob 13 (.new (.agg [(.int .i64 0), (.sl [] .tight), (.sl [] .tight)]) 3),On (.store (.t 13) (.t 40) 3),Ob 14 (.mov (.t 41))])
 (.seq (.seq (.region [Ob 43 (.load (.t 4) (some 5)),Ob 44 (.load (.t 11) (some 7)),Ob 45 (.load (.t 13) (some 3)),Ob 46 (.mov (.t 3)),Ob 47 (.call 65 [(.t 43), (.t 44), (.t 45), (.t 46)]),Ob 42 (.mov (.t 47)),Ob 48 (.ext (.t 42) 0),Ob 49 (.ext (.t 42) 1),Ob 15 (.mov (.t 48)),Ob 16 (.mov (.t 49))])
 (.seq (.region [Ob 50 (.mov (.t 15)),Ob 51 (.bin .neq (.t 50) (Ci 0))])
 (.cond (.t 51) (.seq (.region [Ob 8 (.mov (Ci 0)),Ob 9 (.mov (Ci 3))])
 (.ret))
 (.skip))))
 (.seq (.region [Ob 17 (.mov (Ci 0))])
 (.seq (.seq (.region [Ob 52 (.mov (.t 3)),Ob 18 (.mov (.t 52))])
 (.block 0 (.loop (.seq (.seq (.region [Ob 53 (.mov (.t 18)),Ob 54 (.mov (.t 3)),Ob 55 (.addr (.t 11) 4),Ob 56 (.load (.t 55) none),Ob 57 (.bin .add (.t 54) (.t 56)),Ob 58 (.bin .lss (.t 53) (.t 57)),Ob 59 (.mov (.t 58)),Og 60 59 true (.addr (.t 11) 5),Og 61 59 true (.load (.t 60) none),Ob 62 (.pick (.t 59) (.t 61) (.c (.bool false)))])
 (.cond (.t 62) (.skip)
 (.exit 0)))
 (.seq (.block 1 (.seq (.region [Ob 65 (.mov (.t 18)),Ob 19 (.mov (.t 65))])
 (.seq (.seq (.region [Ob 20 (.mov (Ci 0))])
 (.block 2 (.loop (.seq (.seq (.region [Ob 66 (.mov (.t 20)),Ob 67 (.addr (.t 4) 3),Ob 68 (.load (.t 67) none),Ob 69 (.len (.t 68)),Ob 70 (.bin .lss (.t 66) (.t 69))])
 (.cond (.t 70) (.skip)
 (.exit 2)))
 (.seq (.block 3 (.seq (.region [Ob 73 (.addr (.t 4) 3),Ob 74 (.load (.t 73) none),Ob 75 (.mov (.t 20)),Ob 76 (.idx (.t 74) (.t 75) 5),Ob 77 (.load (.t 76) (some 5)),Ob 21 (.new (.agg [(.int .i64 0), (.int .i64 0), (.sl [] .tight), (.int .i64 0), (.int .i64 0)]) 5),On (.store (.t 21) (.t 77) 5)])
 (.seq (.region [Ob 78 (.load (.t 4) (some 5)),Ob 79 (.load (.t 21) (some 5)),Ob 80 (.load (.t 11) (some 7)),Ob 81 (.load (.t 13) (some 3)),Ob 82 (.call 66 [(.t 78), (.t 79), (.t 80), (.t 81)]),Ob 83 (.mov (.t 82)),Og 84 83 true (.addr (.t 21) 3),Og 85 83 true (.load (.t 84) none),Og 86 83 true (.mov (.t 18)),Og 87 83 true (.bin .leq (.t 85) (.t 86)),Ob 88 (.pick (.t 83) (.t 87) (.c (.bool false)))])
 (.cond (.t 88) (.region [Ob 89 (.mov (.t 19)),Ob 90 (.addr (.t 21) 4),Ob 91 (.load (.t 90) none),Ob 92 (.bin .add (.t 91) (Ci 1)),Ob 93 (.mnx true (.t 89) (.t 92)),Ob 19 (.mov (.t 93))])
 (.skip)))))
 (.region [Ob 71 (.mov (.t 20)),Ob 72 (.bin .add (.t 71) (Ci 1)),Ob 20 (.mov (.t 72))]))))))
 (.region [Ob 94 (.mov (.t 19)),Ob 18 (.mov (.t 94))]))))
 (.region [Ob 63 (.mov (.t 17)),Ob 64 (.bin .add (.t 63) (Ci 1)),Ob 17 (.mov (.t 64))]))))))
 (.seq (.region [Ob 95 (.mov (.t 17)),Ob 8 (.mov (.t 95)),Ob 9 (.mov (Ci 0))])
 (.ret))))))))
def r38 : List Res := [.t 8,.t 9]
def a38 : AFn := ⟨4, c38, r38,.v⟩
def c39 : ACode := .seq (.region [Ob 4 (.box (.t 0) 5),Ob 5 (.box (.t 1) 7),Ob 8 (.mov (.c (.sl [] .tight))),Ob 9 (.mov (Ci 0))])
 (.seq (.seq (.region [Ob 16 (.load (.t 4) (some 5)),Ob 17 (.call 32 [(.t 16)]),Ob 10 (.mov (.t 17))])
 (.seq (.region [Ob 18 (.mov (.t 10)),Ob 19 (.bin .neq (.t 18) (Ci 0))])
 (.cond (.t 19) (.seq (.region [Ob 20 (.mov (.t 10)),Ob 8 (.mov (.c (.sl [] .tight))),Ob 9 (.mov (.t 20))])
 (.ret))
 (.skip))))
 (.seq (.region [Ob 22 (.load (.t 4) (some 5)),Ob 23 (.mov (.t 2)),Ob 24 (.call 67 [(.t 22), (.t 23)]),Ob 21 (.mov (.t 24)),Ob 25 (.ext (.t 21) 0),Ob 26 (.ext (.t 21) 1),Ob 11 (.new (.agg [(.int .i64 0), (.sl [] .tight), (.sl [] .tight)]) 3),On (.store (.t 11) (.t 25) 3),Ob 12 (.mov (.t 26))])
 (.seq (.seq (.region [Ob 27 (.mov (.t 12)),Ob 28 (.not (.t 27)),Ob 29 (.mov (.t 28)),Og 30 29 false (.mov (.t 3)),Og 31 29 false (.call 68 [(.t 30)]),Og 32 29 false (.not (.t 31)),Ob 33 (.pick (.t 29) (.c (.bool true)) (.t 32)),Ob 34 (.mov (.t 33)),Og 35 34 false (.load (.t 5) (some 7)),Og 36 34 false (.call 69 [(.t 35)]),Og 37 34 false (.not (.t 36)),Ob 38 (.pick (.t 34) (.c (.bool true)) (.t 37))])
 (.cond (.t 38) (.seq (.region [Ob 8 (.mov (.c (.sl [] .tight))),Ob 9 (.mov (Ci 1))])
 (.ret))
 (.skip)))
 (.seq (.region [Ob 13 (.mov (.c (.sl [] .tight)))])
 (.seq (.seq (.region [Ob 39 (.addr (.t 4) 1),Ob 40 (.load (.t 39) none),Ob 41 (.len (.t 40)),Ob 42 (.mov (Ci 0))])
 (.block 0 (.loop (.seq (.region [Ob 43 (.bin .lss (.t 42) (.t 41))])
 (.seq (.cond (.t 43) (.skip)
 (.exit 0))
 (.seq (.block 1 (.seq (.region [Ob 44 (.idx (.t 40) (.t 42) 7),Ob 45 (.load (.t 44) (some 7)),Ob 15 (.new (.agg [(.int .i64 0), (.int .i64 0), (.int .i64 0), (.int .i64 0), (.int .i64 0), (.bool false), (.sl [] .tight)]) 7),On (.store (.t 15) (.t 45) 7)])
 (.seq (.region [Ob 46 (.load (.t 15) (some 7)),Ob 47 (.load (.t 5) (some 7)),Ob 48 (.call 70 [(.t 46), (.t 47)]),Ob 49 (.mov (.t 48)),Og 50 49 true (.load (.t 4) (some 5)),Og 51 49 true (.load (.t 15) (some 7)),Og 52 49 true (.load (.t 11) (some 3)),Og 53 49 true (.call 71 [(.t 50), (.t 51), (.t 52)]),Og 54 49 true (.mov (.t 3)),Og 55 49 true (.call 58 [(.t 53), (.t 54)]),Ob 56 (.pick (.t 49) (.t 55) (.c (.bool false)))])
 (.cond (.t 56) (.region [Ob 57 (.mov (.t 13)),Ob 58 (.addr (.t 15) 0),Ob 59 (.load (.t 58) none),Ob 60 (.lit true 3 1 [(.t 59)]),Ob 61 (.app true (.t 57) (.t 60) 3 1 8),Ob 13 (.mov (.t 61))])
 (.skip)))))
 (.region [Ob 62 (.bin .add (.t 42) (Ci 1)),Ob 42 (.mov (.t 62))])))))))
 (.seq (.region [Ob 63 (.mov (.t 13)),Ob 64 (.call 72 [(.t 63)])])
 (.seq (.region [Ob 65 (.mov (.t 13)),Ob 8 (.mov (.t 65)),Ob 9 (.mov (Ci 0))])
 (.ret))))))))
def r39 : List Res := [.t 8,.t 9]
def a39 : AFn := ⟨4, c39, r39,.v⟩
def c40 : ACode := .seq (.region [Ob 4 (.box (.t 0) 5),Ob 5 (.box (.t 1) 7),Ob 8 (.mov (.c (.sl [] .tight))),Ob 9 (.mov (Ci 0))])
 (.seq (.seq (.region [Ob 19 (.load (.t 4) (some 5)),Ob 20 (.call 27 [(.t 19)]),Ob 10 (.mov (.t 20))])
 (.seq (.region [Ob 21 (.mov (.t 10)),Ob 22 (.bin .neq (.t 21) (Ci 0))])
 (.cond (.t 22) (.seq (.region [Ob 23 (.mov (.t 10)),Ob 8 (.mov (.c (.sl [] .tight))),Ob 9 (.mov (.t 23))])
 (.ret))
 (.skip))))
 (.seq (.region [Ob 25 (.load (.t 4) (some 5)),Ob 26 (.mov (.t 2)),Ob 27 (.call 22 [(.t 25), (.t 26)]),Ob 24 (.mov (.t 27)),Ob 28 (.ext (.t 24) 0),Ob 29 (.ext (.t 24) 1),Ob 11 (.new (.agg [(.int .i64 0), (.sl [] .tight), (.sl [] .tight)]) 3),On (.store (.t 11) (.t 28) 3),Ob 12 (.mov (.t 29))])
 (.seq (.seq (.region [Ob 30 (.mov (.t 12)),Ob 31 (.not (.t 30)),Ob 32 (.mov (.t 31)),Og 33 32 false (.mov (.t 3)),Og 34 32 false (.call 73 [(.t 33), (Ci 0), (Ci 9999)]),Og 35 32 false (.not (.t 34)),Ob 36 (.pick (.t 32) (.c (.bool true)) (.t 35)),Ob 37 (.mov (.t 36)),Og 38 37 false (.addr (.t 5) 1),Og 39 37 false (.load (.t 38) none),Og 40 37 false (.call 73 [(.t 39), (Ci 0), (Ci 99)]),Og 41 37 false (.not (.t 40)),Ob 42 (.pick (.t 37) (.c (.bool true)) (.t 41)),Ob 43 (.mov (.t 42)),Og 44 43 false (.addr (.t 5) 2),Og 45 43 false (.load (.t 44) none),Og 46 43 false (.call 73 [(.t 45), (Ci (-1)), (Ci 9)]),Og 47 43 false (.not (.t 46)),Ob 48 (.pick (.t 43) (.c (.bool true)) (.t 47)),Ob 49 (.mov (.t 48)),Og 50 49 false (.addr (.t 5) 3),Og 51 49 false (.load (.t 50) none),Og 52 49 false (.call 73 [(.t 51), (Ci (-1)), (Ci 9)]),Og 53 49 false (.not (.t 52)),Ob 54 (.pick (.t 49) (.c (.bool true)) (.t 53))])
 (.cond (.t 54) (.seq (.region [Ob 8 (.mov (.c (.sl [] .tight))),Ob 9 (.mov (Ci 1))])
 (.ret))
 (.skip)))
 (.seq (.region [Ob 13 (.mov (.c (.sl [] .tight)))])
 (.seq (.seq (.region [Ob 14 (.mov (Ci 0))])
 (.block 0 (.loop (.seq (.seq (.region [Ob 55 (.mov (.t 14)),Ob 56 (.bin .leq (.t 55) (Ci 99))])
 (.cond (.t 56) (.skip)
 (.exit 0)))
 (.seq (.block 1 (.seq (.region [Ob 60 (.load (.t 4) (some 5)),Ob 61 (.mov (.t 14)),Ob 62 (.call 21 [(.t 60), (.t 61)]),Ob 59 (.mov (.t 62)),Ob 63 (.ext (.t 59) 0),Ob 64 (.ext (.t 59) 1),Ob 15 (.new (.agg [(.int .i64 0), (.int .i64 0), (.int .i64 0), (.int .i64 0), (.int .i64 0), (.bool false), (.sl [] .tight)]) 7),On (.store (.t 15) (.t 63) 7),Ob 16 (.mov (.t 64))])
 (.seq (.seq (.region [Ob 65 (.mov (.t 16)),Ob 66 (.not (.t 65)),Ob 67 (.mov (.t 66)),Og 68 67 false (.addr (.t 15) 1),Og 69 67 false (.load (.t 68) none),Og 70 67 false (.addr (.t 5) 1),Og 71 67 false (.load (.t 70) none),Og 72 67 false (.bin .neq (.t 69) (.t 71)),Ob 73 (.pick (.t 67) (.c (.bool true)) (.t 72)),Ob 74 (.mov (.t 73)),Og 75 74 false (.addr (.t 5) 2),Og 76 74 false (.load (.t 75) none),Og 77 74 false (.bin .neq (.t 76) (Ci (-1))),Og 78 74 false (.mov (.t 77)),Og 79 78 true (.addr (.t 15) 2),Og 80 78 true (.load (.t 79) none),Og 81 78 true (.addr (.t 5) 2),Og 82 78 true (.load (.t 81) none),Og 83 78 true (.bin .neq (.t 80) (.t 82)),Og 84 74 false (.pick (.t 78) (.t 83) (.c (.bool false))),Ob 85 (.pick (.t 74) (.c (.bool true)) (.t 84)),Ob 86 (.mov (.t 85)),Og 87 86 false (.addr (.t 5) 3),Og 88 86 false (.load (.t 87) none),Og 89 86 false (.bin .neq (.t 88) (Ci (-1))),Og 90 86 false (.mov (.t 89)),Og 91 90 true (.addr (.t 15) 3),Og 92 90 true (.load (.t 91) none),Og 93 90 true (.addr (.t 5) 3),Og 94 90 true (.load (.t 93) none),Og 95 90 true (.bin .neq (.t 92) (.t 94)),Og 96 86 false (.pick (.t 90) (.t 95) (.c (.bool false))),Ob 97 (.pick (.t 86) (.c (.bool true)) (.t 96))])
 (.cond (.t 97) (.exit 1)
 (.skip)))
 (.seq (.region [Ob 99 (.load (.t 4) (some 5)),Ob 100 (.load (.t 15) (some 7)),Ob 101 (.load (.t 11) (some 3)),Ob 102 (.mov (.t 3)),Ob 103 (.call 65 [(.t 99), (.t 100), (.t 101), (.t 102)]),Ob 98 (.mov (.t 103)),Ob 104 (.ext (.t 98) 0),Ob 105 (.ext (.t 98) 1),Ob 17 (.mov (.t 104)),Ob 18 (.mov (.t 105))])
 (.seq (.region [Ob 106 (.mov (.t 17)),Ob 107 (.bin .eql (.t 106) (Ci 0))])
 (.cond (.t 107) (.region [Ob 108 (.mov (.t 13)),Ob 109 (.mov (.t 14)),Ob 110 (.lit false 3 1 [(.t 109)]),Ob 111 (.app false (.t 108) (.t 110) 3 1 8),Ob 13 (.mov (.t 111))])
 (.skip)))))))
 (.region [Ob 57 (.mov (.t 14)),Ob 58 (.bin .add (.t 57) (Ci 1)),Ob 14 (.mov (.t 58))]))))))
 (.seq (.region [Ob 112 (.mov (.t 13)),Ob 8 (.mov (.t 112)),Ob 9 (.mov (Ci 0))])
 (.ret)))))))
def r40 : List Res := [.t 8,.t 9]
def a40 : AFn := ⟨4, c40, r40,.v⟩
def c42 : ACode := .seq (.region [Ob 0 (.new (.agg [(.sl [] .tight), (.sl [] .tight), (.sl [] .tight), (.sl [] .tight), (.sl [] .tight)]) 5)])
 (.seq (.region [Ob 1 (.build [(.int .i64 0), (.int .i64 0)] [(0, 1, (Ci 1)), (1, 1, (Ci 11))]),Ob 2 (.build [(.int .i64 0), (.int .i64 0)] [(0, 1, (Ci 2)), (1, 1, (Ci 22))]),Ob 3 (.build [(.int .i64 0), (.int .i64 0)] [(0, 1, (Ci 3)), (1, 1, (Ci 33))]),Ob 4 (.lit false 72 2 [(.t 1), (.t 2), (.t 3)]),Ob 5 (.lit false 3 1 [(Ci 1), (Ci 2)]),Ob 6 (.build [(.int .i64 0), (.int .i64 0), (.int .i64 0), (.int .i64 0), (.int .i64 0), (.bool false), (.sl [] .tight)] [(0, 1, (Ci 7)), (1, 1, (Ci 1)), (2, 1, (Ci 1)), (4, 1, (Ci 100)), (5, 1, (.c (.bool true))), (6, 1, (.t 5))]),Ob 7 (.lit false 3 1 [(Ci 1), (Ci 3)]),Ob 8 (.build [(.int .i64 0), (.int .i64 0), (.int .i64 0), (.int .i64 0), (.int .i64 0), (.bool false), (.sl [] .tight)] [(0, 1, (Ci 8)), (1, 1, (Ci 1)), (2, 1, (Ci 2)), (3, 1, (Ci 1)), (4, 1, (Ci 100)), (5, 1, (.c (.bool true))), (6, 1, (.t 7))]),Ob 9 (.lit false 3 1 [(Ci 3)]),Ob 10 (.build [(.int .i64 0), (.int .i64 0), (.int .i64 0), (.int .i64 0), (.int .i64 0), (.bool false), (.sl [] .tight)] [(0, 1, (Ci 9)), (1, 1, (Ci 2)), (2, 1, (Ci 1)), (4, 1, (Ci 20)), (6, 1, (.t 9))]),Ob 11 (.lit false 47 7 [(.t 6), (.t 8), (.t 10)]),Ob 12 (.lit false 3 1 [(Ci 4), (Ci 5)]),Ob 13 (.build [(.int .i64 0), (.int .i64 0)] [(0, 1, (Ci 1)), (1, 1, (Ci 11))]),Ob 14 (.build [(.int .i64 0), (.int .i64 0)] [(0, 1, (Ci 2)), (1, 1, (Ci 22))]),Ob 15 (.build [(.int .i64 0), (.int .i64 0)] [(0, 1, (Ci 3)), (1, 1, (Ci 30))]),Ob 16 (.lit false 72 2 [(.t 13), (.t 14), (.t 15)]),Ob 17 (.build [(.int .i64 0), (.sl [] .tight), (.sl [] .tight)] [(0, 1, (Ci 1)), (1, 1, (.t 12)), (2, 1, (.t 16))]),Ob 18 (.lit false 3 1 [(Ci 6)]),Ob 19 (.build [(.int .i64 0), (.int .i64 0)] [(0, 1, (Ci 1)), (1, 1, (Ci 11))]),Ob 20 (.build [(.int .i64 0), (.int .i64 0)] [(0, 1, (Ci 3)), (1, 1, (Ci 33))]),Ob 21 (.lit false 72 2 [(.t 19), (.t 20)]),Ob 22 (.build [(.int .i64 0), (.sl [] .tight), (.sl [] .tight)] [(0, 1, (Ci 2)), (1, 1, (.t 18)), (2, 1, (.t 21))]),Ob 23 (.lit false 51 3 [(.t 17), (.t 22)]),Ob 24 (.lit false 3 1 [(Ci 4), (Ci 5)]),Ob 25 (.build [(.int .i64 0), (.int .i64 0), (.sl [] .tight), (.int .i64 0), (.int .i64 0)] [(0, 1, (Ci 1)), (1, 1, (Ci 7)), (2, 1, (.t 24)), (3, 1, (Ci 100)), (4, 1, (Ci 250))]),Ob 26 (.lit false 3 1 [(Ci 4), (Ci 5), (Ci 6)]),Ob 27 (.build [(.int .i64 0), (.int .i64 0), (.sl [] .tight), (.int .i64 0), (.int .i64 0)] [(0, 1, (Ci 2)), (1, 1, (Ci 7)), (2, 1, (.t 26)), (3, 1, (Ci 240)), (4, 1, (Ci 400))]),Ob 28 (.lit false 3 1 [(Ci 4)]),Ob 29 (.build [(.int .i64 0), (.int .i64 0), (.sl [] .tight), (.int .i64 0), (.int .i64 0)] [(0, 1, (Ci 3)), (1, 1, (Ci 8)), (2, 1, (.t 28)), (4, 1, (Ci 999))]),Ob 30 (.lit false 37 5 [(.t 25), (.t 27), (.t 29)]),Ob 31 (.build [(.sl [] .tight), (.sl [] .tight), (.sl [] .tight), (.sl [] .tight), (.sl [] .tight)] [(0, 1, (.t 4)), (1, 1, (.t 11)), (2, 1, (.t 23)), (3, 1, (.t 30))]),On (.store (.t 0) (.t 31) 5)])
 (.ret))
def r42 : List Res := [.cell 0 (some 5)]
def a42 : AFn := ⟨0, c42, r42,.v⟩
def c43 : ACode := .seq (.region [Ob 4 (.box (.t 0) 5),Ob 8 (.new (.agg [(.int .i64 0), (.int .i64 0), (.int .i64 0), (.int .i64 0), (.int .i64 0), (.bool false), (.sl [] .tight), (.sl [] .tight), (.sl [] .tight), (.sl [] .tight), (.sl [] .tight), (.sl [] .tight)]) 12),Ob 9 (.mov (Ci 0))])
 (.seq (.region [Ob 13 (.load (.t 4) (some 5)),Ob 14 (.mov (.t 1)),Ob 15 (.mov (.t 2)),Ob 16 (.call 54 [(.t 13), (.t 14), (.t 15)]),Ob 12 (.mov (.t 16)),Ob 17 (.ext (.t 12) 0),Ob 18 (.ext (.t 12) 1),Ob 10 (.new (.agg [(.int .i64 0), (.int .i64 0), (.int .i64 0), (.int .i64 0), (.int .i64 0), (.bool false), (.sl [] .tight), (.sl [] .tight), (.sl [] .tight), (.sl [] .tight), (.sl [] .tight), (.sl [] .tight)]) 12),On (.store (.t 10) (.t 17) 12),Ob 11 (.mov (.t 18))])
 (.seq (.seq (.region [Ob 19 (.mov (.t 11)),Ob 20 (.bin .eql (.t 19) (Ci 0)),Ob 21 (.mov (.t 20)),Og 22 21 true (.mov (.t 3)),Og 23 21 true (.call 68 [(.t 22)]),Og 24 21 true (.not (.t 23)),Ob 25 (.pick (.t 21) (.t 24) (.c (.bool false)))])
 (.cond (.t 25) (.seq (.region [Ob 26 (.build [(.int .i64 0), (.int .i64 0), (.int .i64 0), (.int .i64 0), (.int .i64 0), (.bool false), (.sl [] .tight), (.sl [] .tight), (.sl [] .tight), (.sl [] .tight), (.sl [] .tight), (.sl [] .tight)] []),On (.store (.t 8) (.t 26) 12),Ob 9 (.mov (Ci 1))])
 (.ret))
 (.skip)))
 (.seq (.region [Ob 27 (.load (.t 10) (some 12)),Ob 28 (.mov (.t 11)),On (.store (.t 8) (.t 27) 12),Ob 9 (.mov (.t 28))])
 (.ret))))
def r43 : List Res := [.cell 8 (some 12),.t 9]
def a43 : AFn := ⟨4, c43, r43,.v⟩
def c44 : ACode := .seq (.region [Ob 2 (.box (.t 0) 12),Ob 4 (.mov (Ci 0)),Ob 5 (.mov (Ci 0))])
 (.seq (.block 0 (.seq (.region [Ob 10 (.load (.t 2) (some 12)),Ob 11 (.mov (.t 1)),Ob 12 (.call 58 [(.t 10), (.t 11)]),Ob 9 (.mov (.t 12))])
 (.cond (.t 9) (.seq (.region [Ob 13 (.mov (.t 1)),Ob 14 (.addr (.t 2) 0),Ob 15 (.addr (.t 14) 4),Ob 16 (.load (.t 15) none),Ob 17 (.bin .add (.t 13) (.t 16)),Ob 18 (.bin .sub (.t 17) (Ci 1)),Ob 4 (.mov (Ci 0)),Ob 5 (.mov (.t 18))])
 (.ret))
 (.seq (.region [Ob 20 (.addr (.t 2) 8),Ob 21 (.load (.t 20) none),Ob 22 (.len (.t 21)),Ob 23 (.bin .gtr (.t 22) (Ci 0)),Ob 19 (.mov (.t 23))])
 (.cond (.t 19) (.seq (.region [Ob 24 (.addr (.t 2) 8),Ob 25 (.load (.t 24) none),Ob 26 (.idx (.t 25) (Ci 0) 1),Ob 27 (.load (.t 26) none),Ob 4 (.mov (Ci 1)),Ob 5 (.mov (.t 27))])
 (.ret))
 (.seq (.region [Ob 29 (.addr (.t 2) 0),Ob 30 (.addr (.t 29) 5),Ob 31 (.load (.t 30) none),Ob 32 (.mov (.t 31)),Og 33 32 true (.addr (.t 2) 9),Og 34 32 true (.load (.t 33) none),Og 35 32 true (.len (.t 34)),Og 36 32 true (.bin .eql (.t 35) (Ci 0)),Ob 37 (.pick (.t 32) (.t 36) (.c (.bool false))),Ob 28 (.mov (.t 37))])
 (.cond (.t 28) (.seq (.region [Ob 4 (.mov (Ci 2)),Ob 5 (.mov (Ci (-1)))])
 (.ret))
 (.seq (.region [Ob 39 (.addr (.t 2) 0),Ob 40 (.addr (.t 39) 5),Ob 41 (.load (.t 40) none),Ob 42 (.mov (.t 41)),Og 43 42 true (.addr (.t 2) 10),Og 44 42 true (.load (.t 43) none),Og 45 42 true (.len (.t 44)),Og 46 42 true (.bin .eql (.t 45) (Ci 0)),Ob 47 (.pick (.t 42) (.t 46) (.c (.bool false))),Ob 38 (.mov (.t 47))])
 (.cond (.t 38) (.seq (.region [Ob 6 (.mov (.c (.fn 75 [] [])))])
 (.seq (.region [Ob 49 (.load (.t 2) (some 12)),Ob 50 (.addr (.t 2) 9),Ob 51 (.load (.t 50) none),Ob 52 (.mov (.t 6)),Ob 53 (.call 78 [(.t 51), (.t 52)]),Ob 54 (.call 77 [(.t 49), (.t 53)]),Ob 48 (.mov (.t 54)),Ob 55 (.ext (.t 48) 0),Ob 56 (.ext (.t 48) 1),Ob 7 (.mov (.t 55)),Ob 8 (.mov (.t 56))])
 (.seq (.region [Ob 57 (.mov (.t 7)),Ob 4 (.mov (Ci 3)),Ob 5 (.mov (.t 57))])
 (.ret))))
 (.skip))))))))))
 (.seq (.region [Ob 58 (.load (.t 2) (some 12)),Ob 59 (.mov (.t 1)),Ob 60 (.call 79 [(.t 58), (.t 59)]),Ob 4 (.mov (Ci 4)),Ob 5 (.mov (.t 60))])
 (.ret)))
def r44 : List Res := [.t 4,.t 5]
def a44 : AFn := ⟨2, c44, r44,.v⟩
def c50 : ACode := .seq (.region [Ob 2 (.mov (.c (.bool false)))])
 (.seq (.region [Ob 8 (.mkmap .i),Ob 3 (.mov (.t 8))])
 (.seq (.seq (.region [Ob 9 (.mov (.t 0)),Ob 10 (.len (.t 9)),Ob 11 (.mov (Ci 0))])
 (.block 0 (.loop (.seq (.region [Ob 12 (.bin .lss (.t 11) (.t 10))])
 (.seq (.cond (.t 12) (.skip)
 (.exit 0))
 (.seq (.block 1 (.seq (.region [Ob 13 (.idx (.t 9) (.t 11) 5),Ob 14 (.load (.t 13) (some 5)),Ob 5 (.new (.agg [(.int .i64 0), (.int .i64 0), (.sl [] .tight), (.int .i64 0), (.int .i64 0)]) 5),On (.store (.t 5) (.t 14) 5)])
 (.seq (.seq (.region [Ob 16 (.mov (.t 3)),Ob 17 (.addr (.t 5) 0),Ob 18 (.load (.t 17) none),Ob 19 (.mget .i (.agg [(.int .i64 0), (.int .i64 0), (.sl [] .tight), (.int .i64 0), (.int .i64 0)]) true (.t 16) (.t 18)),Ob 15 (.mov (.t 19)),Ob 20 (.ext (.t 15) 0),Ob 21 (.ext (.t 15) 1),Ob 6 (.new (.agg [(.int .i64 0), (.int .i64 0), (.sl [] .tight), (.int .i64 0), (.int .i64 0)]) 5),On (.store (.t 6) (.t 20) 5),Ob 7 (.mov (.t 21))])
 (.seq (.region [Ob 22 (.mov (.t 7)),Ob 23 (.mov (.t 22)),Og 24 23 true (.load (.t 5) (some 5)),Og 25 23 true (.load (.t 6) (some 5)),Og 26 23 true (.call 81 [(.t 24), (.t 25)]),Og 27 23 true (.not (.t 26)),Ob 28 (.pick (.t 23) (.t 27) (.c (.bool false)))])
 (.cond (.t 28) (.seq (.region [Ob 2 (.mov (.c (.bool true)))])
 (.ret))
 (.skip))))
 (.region [Ob 29 (.mov (.t 3)),Ob 30 (.addr (.t 5) 0),Ob 31 (.load (.t 30) none),Ob 32 (.load (.t 5) (some 5)),On (.mput .i (.t 29) (.t 31) (.t 32))]))))
 (.region [Ob 33 (.bin .add (.t 11) (Ci 1)),Ob 11 (.mov (.t 33))])))))))
 (.seq (.region [Ob 2 (.mov (.c (.bool false)))])
 (.ret))))
def r50 : List Res := [.t 2]
def a50 : AFn := ⟨1, c50, r50,.v⟩
def c54 : ACode := .seq (.region [Ob 3 (.box (.t 0) 5),Ob 6 (.new (.agg [(.int .i64 0), (.int .i64 0), (.int .i64 0), (.int .i64 0), (.int .i64 0), (.bool false), (.sl [] .tight), (.sl [] .tight), (.sl [] .tight), (.sl [] .tight), (.sl [] .tight), (.sl [] .tight)]) 12),Ob 7 (.mov (Ci 0))])
 (.seq (.seq (.region [Ob 13 (.load (.t 3) (some 5)),Ob 14 (.call 32 [(.t 13)]),Ob 8 (.mov (.t 14))])
 (.seq (.region [Ob 15 (.mov (.t 8)),Ob 16 (.bin .neq (.t 15) (Ci 0))])
 (.cond (.t 16) (.seq (.region [Ob 17 (.build [(.int .i64 0), (.int .i64 0), (.int .i64 0), (.int .i64 0), (.int .i64 0), (.bool false), (.sl [] .tight), (.sl [] .tight), (.sl [] .tight), (.sl [] .tight), (.sl [] .tight), (.sl [] .tight)] []),Ob 18 (.mov (.t 8)),On (.store (.t 6) (.t 17) 12),Ob 7 (.mov (.t 18))])
 (.ret))
 (.skip))))
 (.seq (.region [Ob 20 (.load (.t 3) (some 5)),Ob 21 (.mov (.t 1)),Ob 22 (.call 94 [(.t 20), (.t 21)]),Ob 19 (.mov (.t 22)),Ob 23 (.ext (.t 19) 0),Ob 24 (.ext (.t 19) 1),Ob 9 (.new (.agg [(.int .i64 0), (.int .i64 0), (.int .i64 0), (.int .i64 0), (.int .i64 0), (.bool false), (.sl [] .tight)]) 7),On (.store (.t 9) (.t 23) 7),Ob 10 (.mov (.t 24))])
 (.seq (.region [Ob 26 (.load (.t 3) (some 5)),Ob 27 (.mov (.t 2)),Ob 28 (.call 67 [(.t 26), (.t 27)]),Ob 25 (.mov (.t 28)),Ob 29 (.ext (.t 25) 0),Ob 30 (.ext (.t 25) 1),Ob 11 (.new (.agg [(.int .i64 0), (.sl [] .tight), (.sl [] .tight)]) 3),On (.store (.t 11) (.t 29) 3),Ob 12 (.mov (.t 30))])
 (.seq (.seq (.region [Ob 31 (.mov (.t 10)),Ob 32 (.not (.t 31)),Ob 33 (.mov (.t 32)),Og 34 33 false (.mov (.t 12)),Og 35 33 false (.not (.t 34)),Ob 36 (.pick (.t 33) (.c (.bool true)) (.t 35))])
 (.cond (.t 36) (.seq (.region [Ob 37 (.build [(.int .i64 0), (.int .i64 0), (.int .i64 0), (.int .i64 0), (.int .i64 0), (.bool false), (.sl [] .tight), (.sl [] .tight), (.sl [] .tight), (.sl [] .tight), (.sl [] .tight), (.sl [] .tight)] []),On (.store (.t 6) (.t 37) 12),Ob 7 (.mov (Ci 1))])
 (.ret))
 (.skip)))
 (.seq (.region [Ob 38 (.load (.t 3) (some 5)),Ob 39 (.load (.t 9) (some 7)),Ob 40 (.load (.t 11) (some 3)),Ob 41 (.call 71 [(.t 38), (.t 39), (.t 40)]),On (.store (.t 6) (.t 41) 12),Ob 7 (.mov (Ci 0))])
 (.ret))))))
def r54 : List Res := [.cell 6 (some 12),.t 7]
def a54 : AFn := ⟨3, c54, r54,.v⟩
def c55 : ACode := .seq (.region [Ob 1 (.box (.t 0) 5),Ob 2 (.mov (.c (.bool false)))])
 (.seq (.seq (.region [Ob 11 (.addr (.t 1) 0),Ob 12 (.load (.t 11) none),Ob 13 (.len (.t 12)),Ob 14 (.bin .gtr (.t 13) (Ci 12)),Ob 15 (.mov (.t 14)),Og 16 15 false (.addr (.t 1) 1),Og 17 15 false (.load (.t 16) none),Og 18 15 false (.len (.t 17)),Og 19 15 false (.bin .gtr (.t 18) (Ci 8)),Ob 20 (.pick (.t 15) (.c (.bool true)) (.t 19)),Ob 21 (.mov (.t 20)),Og 22 21 false (.addr (.t 1) 2),Og 23 21 false (.load (.t 22) none),Og 24 21 false (.len (.t 23)),Og 25 21 false (.bin .gtr (.t 24) (Ci 6)),Ob 26 (.pick (.t 21) (.c (.bool true)) (.t 25)),Ob 27 (.mov (.t 26)),Og 28 27 false (.addr (.t 1) 3),Og 29 27 false (.load (.t 28) none),Og 30 27 false (.len (.t 29)),Og 31 27 false (.bin .gtr (.t 30) (Ci 20)),Ob 32 (.pick (.t 27) (.c (.bool true)) (.t 31)),Ob 33 (.mov (.t 32)),Og 34 33 false (.addr (.t 1) 4),Og 35 33 false (.load (.t 34) none),Og 36 33 false (.len (.t 35)),Og 37 33 false (.bin .gtr (.t 36) (Ci 20)),Ob 38 (.pick (.t 33) (.c (.bool true)) (.t 37)),Ob 39 (.mov (.t 38)),Og 40 39 false (.addr (.t 1) 0),Og 41 39 false (.load (.t 40) none),Og 42 39 false (.call 95 [(.t 41)]),Og 43 39 false (.not (.t 42)),Ob 44 (.pick (.t 39) (.c (.bool true)) (.t 43))])
 (.cond (.t 44) (.seq (.region [Ob 2 (.mov (.c (.bool false)))])
 (.ret))
 (.skip)))
 (.seq (.seq (.region [Ob 3 (.mov (Ci 0))])
 (.block 0 (.loop (.seq (.seq (.region [Ob 45 (.mov (.t 3)),Ob 46 (.addr (.t 1) 1),Ob 47 (.load (.t 46) none),Ob 48 (.len (.t 47)),Ob 49 (.bin .lss (.t 45) (.t 48))])
 (.cond (.t 49) (.skip)
 (.exit 0)))
 (.seq (.block 1 (.seq (.seq (.region [Ob 52 (.addr (.t 1) 0),Ob 53 (.load (.t 52) none),Ob 54 (.addr (.t 1) 1),Ob 55 (.load (.t 54) none),Ob 56 (.mov (.t 3)),Ob 57 (.idx (.t 55) (.t 56) 7),Ob 58 (.load (.t 57) (some 7)),Ob 59 (.call 96 [(.t 53), (.t 58)]),Ob 60 (.not (.t 59))])
 (.cond (.t 60) (.seq (.region [Ob 2 (.mov (.c (.bool false)))])
 (.ret))
 (.skip)))
 (.seq (.region [Ob 4 (.mov (Ci 0))])
 (.block 2 (.loop (.seq (.seq (.region [Ob 61 (.mov (.t 4)),Ob 62 (.mov (.t 3)),Ob 63 (.bin .lss (.t 61) (.t 62))])
 (.cond (.t 63) (.skip)
 (.exit 2)))
 (.seq (.block 3 (.seq (.region [Ob 66 (.addr (.t 1) 1),Ob 67 (.load (.t 66) none),Ob 68 (.mov (.t 4)),Ob 69 (.idx (.t 67) (.t 68) 7),Ob 70 (.addr (.t 69) 0),Ob 71 (.load (.t 70) none),Ob 72 (.addr (.t 1) 1),Ob 73 (.load (.t 72) none),Ob 74 (.mov (.t 3)),Ob 75 (.idx (.t 73) (.t 74) 7),Ob 76 (.addr (.t 75) 0),Ob 77 (.load (.t 76) none),Ob 78 (.bin .eql (.t 71) (.t 77))])
 (.cond (.t 78) (.seq (.region [Ob 2 (.mov (.c (.bool false)))])
 (.ret))
 (.skip))))
 (.region [Ob 64 (.mov (.t 4)),Ob 65 (.bin .add (.t 64) (Ci 1)),Ob 4 (.mov (.t 65))]))))))))
 (.region [Ob 50 (.mov (.t 3)),Ob 51 (.bin .add (.t 50) (Ci 1)),Ob 3 (.mov (.t 51))]))))))
 (.seq (.seq (.region [Ob 5 (.mov (Ci 0))])
 (.block 4 (.loop (.seq (.seq (.region [Ob 79 (.mov (.t 5)),Ob 80 (.addr (.t 1) 2),Ob 81 (.load (.t 80) none),Ob 82 (.len (.t 81)),Ob 83 (.bin .lss (.t 79) (.t 82))])
 (.cond (.t 83) (.skip)
 (.exit 4)))
 (.seq (.block 5 (.seq (.region [Ob 86 (.addr (.t 1) 2),Ob 87 (.load (.t 86) none),Ob 88 (.mov (.t 5)),Ob 89 (.idx (.t 87) (.t 88) 3),Ob 90 (.load (.t 89) (some 3)),Ob 6 (.new (.agg [(.int .i64 0), (.sl [] .tight), (.sl [] .tight)]) 3),On (.store (.t 6) (.t 90) 3)])
 (.seq (.seq (.region [Ob 91 (.addr (.t 6) 0),Ob 92 (.load (.t 91) none),Ob 93 (.call 73 [(.t 92), (Ci 0), (Ci 99)]),Ob 94 (.not (.t 93)),Ob 95 (.mov (.t 94)),Og 96 95 false (.addr (.t 6) 1),Og 97 95 false (.load (.t 96) none),Og 98 95 false (.len (.t 97)),Og 99 95 false (.call 73 [(.t 98), (Ci 1), (Ci 6)]),Og 100 95 false (.not (.t 99)),Ob 101 (.pick (.t 95) (.c (.bool true)) (.t 100)),Ob 102 (.mov (.t 101)),Og 103 102 false (.addr (.t 6) 1),Og 104 102 false (.load (.t 103) none),Og 105 102 false (.call 97 [(.t 104)]),Og 106 102 false (.not (.t 105)),Ob 107 (.pick (.t 102) (.c (.bool true)) (.t 106)),Ob 108 (.mov (.t 107)),Og 109 108 false (.addr (.t 6) 2),Og 110 108 false (.load (.t 109) none),Og 111 108 false (.len (.t 110)),Og 112 108 false (.bin .gtr (.t 111) (Ci 20)),Ob 113 (.pick (.t 108) (.c (.bool true)) (.t 112)),Ob 114 (.mov (.t 113)),Og 115 114 false (.addr (.t 6) 2),Og 116 114 false (.load (.t 115) none),Og 117 114 false (.call 95 [(.t 116)]),Og 118 114 false (.not (.t 117)),Ob 119 (.pick (.t 114) (.c (.bool true)) (.t 118))])
 (.cond (.t 119) (.seq (.region [Ob 2 (.mov (.c (.bool false)))])
 (.ret))
 (.skip)))
 (.seq (.region [Ob 7 (.mov (Ci 0))])
 (.block 6 (.loop (.seq (.seq (.region [Ob 120 (.mov (.t 7)),Ob 121 (.mov (.t 5)),Ob 122 (.bin .lss (.t 120) (.t 121))])
 (.cond (.t 122) (.skip)
 (.exit 6)))
 (.seq (.block 7 (.seq (.region [Ob 125 (.addr (.t 1) 2),Ob 126 (.load (.t 125) none),Ob 127 (.mov (.t 7)),Ob 128 (.idx (.t 126) (.t 127) 3),Ob 129 (.addr (.t 128) 0),Ob 130 (.load (.t 129) none),Ob 131 (.addr (.t 6) 0),Ob 132 (.load (.t 131) none),Ob 133 (.bin .eql (.t 130) (.t 132))])
 (.cond (.t 133) (.seq (.region [Ob 2 (.mov (.c (.bool false)))])
 (.ret))
 (.skip))))
 (.region [Ob 123 (.mov (.t 7)),Ob 124 (.bin .add (.t 123) (Ci 1)),Ob 7 (.mov (.t 124))])))))))))
 (.region [Ob 84 (.mov (.t 5)),Ob 85 (.bin .add (.t 84) (Ci 1)),Ob 5 (.mov (.t 85))]))))))
 (.seq (.seq (.region [Ob 8 (.mov (Ci 0))])
 (.block 8 (.loop (.seq (.seq (.region [Ob 134 (.mov (.t 8)),Ob 135 (.addr (.t 1) 3),Ob 136 (.load (.t 135) none),Ob 137 (.len (.t 136)),Ob 138 (.bin .lss (.t 134) (.t 137))])
 (.cond (.t 138) (.skip)
 (.exit 8)))
 (.seq (.block 9 (.seq (.region [Ob 141 (.addr (.t 1) 3),Ob 142 (.load (.t 141) none),Ob 143 (.mov (.t 8)),Ob 144 (.idx (.t 142) (.t 143) 5),Ob 145 (.load (.t 144) (some 5)),Ob 9 (.new (.agg [(.int .i64 0), (.int .i64 0), (.sl [] .tight), (.int .i64 0), (.int .i64 0)]) 5),On (.store (.t 9) (.t 145) 5)])
 (.seq (.region [Ob 146 (.addr (.t 9) 0),Ob 147 (.load (.t 146) none),Ob 148 (.call 73 [(.t 147), (Ci 0), (Ci 99)]),Ob 149 (.not (.t 148)),Ob 150 (.mov (.t 149)),Og 151 150 false (.addr (.t 9) 1),Og 152 150 false (.load (.t 151) none),Og 153 150 false (.call 73 [(.t 152), (Ci 0), (Ci 99)]),Og 154 150 false (.not (.t 153)),Ob 155 (.pick (.t 150) (.c (.bool true)) (.t 154)),Ob 156 (.mov (.t 155)),Og 157 156 false (.addr (.t 9) 2),Og 158 156 false (.load (.t 157) none),Og 159 156 false (.len (.t 158)),Og 160 156 false (.bin .gtr (.t 159) (Ci 12)),Ob 161 (.pick (.t 156) (.c (.bool true)) (.t 160)),Ob 162 (.mov (.t 161)),Og 163 162 false (.addr (.t 9) 2),Og 164 162 false (.load (.t 163) none),Og 165 162 false (.call 97 [(.t 164)]),Og 166 162 false (.not (.t 165)),Ob 167 (.pick (.t 162) (.c (.bool true)) (.t 166)),Ob 168 (.mov (.t 167)),Og 169 168 false (.addr (.t 9) 3),Og 170 168 false (.load (.t 169) none),Og 171 168 false (.bin .lss (.t 170) (Ci 0)),Ob 172 (.pick (.t 168) (.c (.bool true)) (.t 171)),Ob 173 (.mov (.t 172)),Og 174 173 false (.addr (.t 9) 3),Og 175 173 false (.load (.t 174) none),Og 176 173 false (.addr (.t 9) 4),Og 177 173 false (.load (.t 176) none),Og 178 173 false (.bin .gtr (.t 175) (.t 177)),Ob 179 (.pick (.t 173) (.c (.bool true)) (.t 178)),Ob 180 (.mov (.t 179)),Og 181 180 false (.addr (.t 9) 4),Og 182 180 false (.load (.t 181) none),Og 183 180 false (.bin .gtr (.t 182) (Ci 9999)),Ob 184 (.pick (.t 180) (.c (.bool true)) (.t 183))])
 (.cond (.t 184) (.seq (.region [Ob 2 (.mov (.c (.bool false)))])
 (.ret))
 (.skip)))))
 (.region [Ob 139 (.mov (.t 8)),Ob 140 (.bin .add (.t 139) (Ci 1)),Ob 8 (.mov (.t 140))]))))))
 (.seq (.seq (.region [Ob 10 (.mov (Ci 0))])
 (.block 10 (.loop (.seq (.seq (.region [Ob 185 (.mov (.t 10)),Ob 186 (.addr (.t 1) 4),Ob 187 (.load (.t 186) none),Ob 188 (.len (.t 187)),Ob 189 (.bin .lss (.t 185) (.t 188))])
 (.cond (.t 189) (.skip)
 (.exit 10)))
 (.seq (.block 11 (.seq (.region [Ob 192 (.addr (.t 1) 4),Ob 193 (.load (.t 192) none),Ob 194 (.mov (.t 10)),Ob 195 (.idx (.t 193) (.t 194) 1),Ob 196 (.load (.t 195) none),Ob 197 (.call 73 [(.t 196), (Ci 0), (Ci 99)]),Ob 198 (.not (.t 197))])
 (.cond (.t 198) (.seq (.region [Ob 2 (.mov (.c (.bool false)))])
 (.ret))
 (.skip))))
 (.region [Ob 190 (.mov (.t 10)),Ob 191 (.bin .add (.t 190) (Ci 1)),Ob 10 (.mov (.t 191))]))))))
 (.seq (.region [Ob 2 (.mov (.c (.bool true)))])
 (.ret)))))))
def r55 : List Res := [.t 2]
def a55 : AFn := ⟨1, c55, r55,.v⟩
def c56 : ACode := .seq (.region [Ob 2 (.mov (.c (.bool false)))])
 (.seq (.seq (.region [Ob 3 (.mov (Ci 0))])
 (.block 0 (.loop (.seq (.seq (.region [Ob 5 (.mov (.t 3)),Ob 6 (.mov (.t 0)),Ob 7 (.len (.t 6)),Ob 8 (.bin .lss (.t 5) (.t 7))])
 (.cond (.t 8) (.skip)
 (.exit 0)))
 (.seq (.block 1 (.seq (.region [Ob 4 (.mov (Ci 0))])
 (.block 2 (.loop (.seq (.seq (.region [Ob 11 (.mov (.t 4)),Ob 12 (.mov (.t 3)),Ob 13 (.bin .lss (.t 11) (.t 12))])
 (.cond (.t 13) (.skip)
 (.exit 2)))
 (.seq (.block 3 (.seq (.region [Ob 16 (.mov (.t 0)),Ob 17 (.mov (.t 4)),Ob 18 (.idx (.t 16) (.t 17) 5),Ob 19 (.addr (.t 18) 0),Ob 20 (.load (.t 19) none),Ob 21 (.mov (.t 0)),Ob 22 (.mov (.t 3)),Ob 23 (.idx (.t 21) (.t 22) 5),Ob 24 (.addr (.t 23) 0),Ob 25 (.load (.t 24) none),Ob 26 (.bin .eql (.t 20) (.t 25)),Ob 27 (.mov (.t 26)),Og 28 27 true (.mov (.t 0)),Og 29 27 true (.mov (.t 4)),Og 30 27 true (.idx (.t 28) (.t 29) 5),Og 31 27 true (.load (.t 30) (some 5)),Og 32 27 true (.mov (.t 0)),Og 33 27 true (.mov (.t 3)),Og 34 27 true (.idx (.t 32) (.t 33) 5),Og 35 27 true (.load (.t 34) (some 5)),Og 36 27 true (.call 93 [(.t 31), (.t 35)]),Og 37 27 true (.not (.t 36)),Ob 38 (.pick (.t 27) (.t 37) (.c (.bool false)))])
 (.cond (.t 38) (.seq (.region [Ob 2 (.mov (.c (.bool true)))])
 (.ret))
 (.skip))))
 (.region [Ob 14 (.mov (.t 4)),Ob 15 (.bin .add (.t 14) (Ci 1)),Ob 4 (.mov (.t 15))])))))))
 (.region [Ob 9 (.mov (.t 3)),Ob 10 (.bin .add (.t 9) (Ci 1)),Ob 3 (.mov (.t 10))]))))))
 (.seq (.region [Ob 2 (.mov (.c (.bool false)))])
 (.ret)))
def r56 : List Res := [.t 2]
def a56 : AFn := ⟨1, c56, r56,.v⟩
def c57 : ACode := .seq (.region [Ob 3 (.box (.t 0) 2),Ob 4 (.mov (.c (.bool false)))])
 (.seq (.region [Ob 5 (.load (.t 1) (some 12)),Ob 6 (.addr (.t 3) 0),Ob 7 (.load (.t 6) none),Ob 8 (.load (.t 2) none),Ob 9 (.mnx true (.t 7) (.t 8)),Ob 10 (.call 58 [(.t 5), (.t 9)]),Ob 4 (.mov (.t 10))])
 (.ret))
def r57 : List Res := [.t 4]
def a57 : AFn := ⟨3, c57, r57,.v⟩
def c58 : ACode := .seq (.region [Ob 2 (.box (.t 0) 12),Ob 4 (.mov (.c (.bool false)))])
 (.seq (.region [Ob 5 (.addr (.t 2) 8),Ob 6 (.load (.t 5) none),Ob 7 (.len (.t 6)),Ob 8 (.bin .eql (.t 7) (Ci 0)),Ob 9 (.mov (.t 8)),Og 10 9 true (.mov (.t 1)),Og 11 9 true (.addr (.t 2) 0),Og 12 9 true (.addr (.t 11) 4),Og 13 9 true (.load (.t 12) none),Og 14 9 true (.bin .add (.t 10) (.t 13)),Og 15 9 true (.load (.t 2) (some 12)),Og 16 9 true (.mov (.t 1)),Og 17 9 true (.call 79 [(.t 15), (.t 16)]),Og 18 9 true (.bin .leq (.t 14) (.t 17)),Ob 19 (.pick (.t 9) (.t 18) (.c (.bool false))),Ob 4 (.mov (.t 19))])
 (.ret))
def r58 : List Res := [.t 4]
def a58 : AFn := ⟨2, c58, r58,.v⟩
def c59 : ACode := .seq (.region [Ob 4 (.new (.agg [(.int .i64 0), (.int .i64 0)]) 2),Ob 5 (.mov (.c (.bool false)))])
 (.seq (.seq (.region [Ob 9 (.mov (.t 0)),Ob 10 (.len (.t 9)),Ob 11 (.mov (Ci 0))])
 (.block 0 (.loop (.seq (.region [Ob 12 (.bin .lss (.t 11) (.t 10))])
 (.seq (.cond (.t 12) (.skip)
 (.exit 0))
 (.seq (.block 1 (.seq (.region [Ob 13 (.idx (.t 9) (.t 11) 2),Ob 14 (.load (.t 13) (some 2)),Ob 7 (.new (.agg [(.int .i64 0), (.int .i64 0)]) 2),On (.store (.t 7) (.t 14) 2)])
 (.seq (.region [Ob 15 (.mov (.t 1)),Ob 16 (.load (.t 7) (some 2)),Ob 17 (.callv (.t 15) [(.t 16)])])
 (.cond (.t 17) (.seq (.region [Ob 18 (.load (.t 7) (some 2)),On (.store (.t 4) (.t 18) 2),Ob 5 (.mov (.c (.bool true)))])
 (.ret))
 (.skip)))))
 (.region [Ob 19 (.bin .add (.t 11) (Ci 1)),Ob 11 (.mov (.t 19))])))))))
 (.seq (.region [Ob 8 (.new (.agg [(.int .i64 0), (.int .i64 0)]) 2)])
 (.seq (.region [Ob 20 (.load (.t 8) (some 2)),On (.store (.t 4) (.t 20) 2),Ob 5 (.mov (.c (.bool false)))])
 (.ret))))
def r59 : List Res := [.cell 4 (some 2),.t 5]
def a59 : AFn := ⟨2, c59, r59,.r⟩
def c60 : ACode := .seq (.region [Ob 2 (.box (.t 0) 12),Ob 4 (.mov (Ci 0))])
 (.seq (.seq (.region [Ob 7 (.addr (.t 2) 0),Ob 8 (.addr (.t 7) 5),Ob 9 (.load (.t 8) none),Ob 10 (.not (.t 9))])
 (.cond (.t 10) (.seq (.region [Ob 4 (.mov (Ci 0))])
 (.ret))
 (.skip)))
 (.seq (.region [Ob 5 (.mov (Ci 0))])
 (.seq (.seq (.region [Ob 11 (.mov (.t 1)),Ob 6 (.mov (.t 11))])
 (.block 0 (.loop (.seq (.seq (.region [Ob 12 (.mov (.t 6)),Ob 13 (.mov (.t 1)),Ob 14 (.addr (.t 2) 0),Ob 15 (.addr (.t 14) 4),Ob 16 (.load (.t 15) none),Ob 17 (.bin .add (.t 13) (.t 16)),Ob 18 (.bin .lss (.t 12) (.t 17))])
 (.cond (.t 18) (.skip)
 (.exit 0)))
 (.seq (.block 1 (.region [Ob 21 (.load (.t 2) (some 12)),Ob 22 (.mov (.t 6)),Ob 23 (.call 98 [(.t 21), (.t 22)]),Ob 24 (.bin .add (.t 23) (Ci 1)),Ob 6 (.mov (.t 24))]))
 (.region [Ob 19 (.mov (.t 5)),Ob 20 (.bin .add (.t 19) (Ci 1)),Ob 5 (.mov (.t 20))]))))))
 (.seq (.region [Ob 25 (.mov (.t 5)),Ob 4 (.mov (.t 25))])
 (.ret)))))
def r60 : List Res := [.t 4]
def a60 : AFn := ⟨2, c60, r60,.v⟩
def c61 : ACode := .seq (.region [Ob 1 (.box (.t 0) 5),Ob 2 (.mov (.c (.bool false)))])
 (.seq (.region [Ob 3 (.addr (.t 1) 0),Ob 4 (.load (.t 3) none),Ob 5 (.len (.t 4)),Ob 6 (.bin .leq (.t 5) (Ci 12)),Ob 7 (.mov (.t 6)),Og 8 7 true (.addr (.t 1) 0),Og 9 7 true (.load (.t 8) none),Og 10 7 true (.call 99 [(.t 9)]),Ob 11 (.pick (.t 7) (.t 10) (.c (.bool false))),Ob 12 (.mov (.t 11)),Og 13 12 true (.addr (.t 1) 1),Og 14 12 true (.load (.t 13) none),Og 15 12 true (.len (.t 14)),Og 16 12 true (.bin .leq (.t 15) (Ci 8)),Ob 17 (.pick (.t 12) (.t 16) (.c (.bool false))),Ob 18 (.mov (.t 17)),Og 19 18 true (.addr (.t 1) 1),Og 20 18 true (.load (.t 19) none),Og 21 18 true (.addr (.t 1) 0),Og 22 18 true (.load (.t 21) none),Og 23 18 true (.call 100 [(.t 20), (.t 22)]),Ob 24 (.pick (.t 18) (.t 23) (.c (.bool false))),Ob 25 (.mov (.t 24)),Og 26 25 true (.addr (.t 1) 2),Og 27 25 true (.load (.t 26) none),Og 28 25 true (.len (.t 27)),Og 29 25 true (.bin .leq (.t 28) (Ci 6)),Ob 30 (.pick (.t 25) (.t 29) (.c (.bool false))),Ob 31 (.mov (.t 30)),Og 32 31 true (.addr (.t 1) 2),Og 33 31 true (.load (.t 32) none),Og 34 31 true (.call 101 [(.t 33)]),Ob 35 (.pick (.t 31) (.t 34) (.c (.bool false))),Ob 36 (.mov (.t 35)),Og 37 36 true (.addr (.t 1) 3),Og 38 36 true (.load (.t 37) none),Og 39 36 true (.len (.t 38)),Og 40 36 true (.bin .leq (.t 39) (Ci 20)),Ob 41 (.pick (.t 36) (.t 40) (.c (.bool false))),Ob 42 (.mov (.t 41)),Og 43 42 true (.addr (.t 1) 3),Og 44 42 true (.load (.t 43) none),Og 45 42 true (.call 102 [(.t 44)]),Ob 46 (.pick (.t 42) (.t 45) (.c (.bool false))),Ob 47 (.mov (.t 46)),Og 48 47 true (.addr (.t 1) 4),Og 49 47 true (.load (.t 48) none),Og 50 47 true (.len (.t 49)),Og 51 47 true (.bin .leq (.t 50) (Ci 20)),Ob 52 (.pick (.t 47) (.t 51) (.c (.bool false))),Ob 53 (.mov (.t 52)),Og 54 53 true (.addr (.t 1) 4),Og 55 53 true (.load (.t 54) none),Og 56 53 true (.call 103 [(.t 55)]),Ob 57 (.pick (.t 53) (.t 56) (.c (.bool false))),Ob 2 (.mov (.t 57))])
 (.ret))
def r61 : List Res := [.t 2]
def a61 : AFn := ⟨1, c61, r61,.v⟩
def c62 : ACode := .seq (.region [Ob 4 (.box (.t 0) 5),Ob 8 (.mov (Ci 0))])
 (.seq (.seq (.region [Ob 14 (.load (.t 4) (some 5)),Ob 15 (.call 27 [(.t 14)]),Ob 9 (.mov (.t 15))])
 (.seq (.region [Ob 16 (.mov (.t 9)),Ob 17 (.bin .neq (.t 16) (Ci 0))])
 (.cond (.t 17) (.seq (.region [Ob 18 (.mov (.t 9)),Ob 8 (.mov (.t 18))])
 (.ret))
 (.skip))))
 (.seq (.region [Ob 20 (.load (.t 4) (some 5)),Ob 21 (.mov (.t 1)),Ob 22 (.call 21 [(.t 20), (.t 21)]),Ob 19 (.mov (.t 22)),Ob 23 (.ext (.t 19) 0),Ob 24 (.ext (.t 19) 1),Ob 10 (.new (.agg [(.int .i64 0), (.int .i64 0), (.int .i64 0), (.int .i64 0), (.int .i64 0), (.bool false), (.sl [] .tight)]) 7),On (.store (.t 10) (.t 23) 7),Ob 11 (.mov (.t 24))])
 (.seq (.region [Ob 26 (.load (.t 4) (some 5)),Ob 27 (.mov (.t 2)),Ob 28 (.call 22 [(.t 26), (.t 27)]),Ob 25 (.mov (.t 28)),Ob 29 (.ext (.t 25) 0),Ob 30 (.ext (.t 25) 1),Ob 12 (.new (.agg [(.int .i64 0), (.sl [] .tight), (.sl [] .tight)]) 3),On (.store (.t 12) (.t 29) 3),Ob 13 (.mov (.t 30))])
 (.seq (.seq (.region [Ob 31 (.mov (.t 11)),Ob 32 (.not (.t 31)),Ob 33 (.mov (.t 32)),Og 34 33 false (.mov (.t 13)),Og 35 33 false (.not (.t 34)),Ob 36 (.pick (.t 33) (.c (.bool true)) (.t 35)),Ob 37 (.mov (.t 36)),Og 38 37 false (.mov (.t 3)),Og 39 37 false (.call 73 [(.t 38), (Ci 0), (Ci 9999)]),Og 40 37 false (.not (.t 39)),Ob 41 (.pick (.t 37) (.c (.bool true)) (.t 40))])
 (.cond (.t 41) (.seq (.region [Ob 8 (.mov (Ci 1))])
 (.ret))
 (.skip)))
 (.seq (.region [Ob 8 (.mov (Ci 0))])
 (.ret))))))
def r62 : List Res := [.t 8]
def a62 : AFn := ⟨4, c62, r62,.v⟩
def c63 : ACode := .seq (.region [Ob 3 (.box (.t 0) 5),Ob 4 (.box (.t 1) 7),Ob 5 (.box (.t 2) 3),Ob 6 (.mov (.c (.sl [] .tight)))])
 (.seq (.region [Ob 7 (.mov (.c (.sl [] .tight)))])
 (.seq (.seq (.region [Ob 8 (.mov (Ci 0))])
 (.block 0 (.loop (.seq (.seq (.region [Ob 13 (.mov (.t 8)),Ob 14 (.addr (.t 4) 6),Ob 15 (.load (.t 14) none),Ob 16 (.len (.t 15)),Ob 17 (.bin .lss (.t 13) (.t 16))])
 (.cond (.t 17) (.skip)
 (.exit 0)))
 (.seq (.block 1 (.seq (.region [Ob 21 (.addr (.t 3) 0),Ob 22 (.load (.t 21) none),Ob 23 (.addr (.t 4) 6),Ob 24 (.load (.t 23) none),Ob 25 (.mov (.t 8)),Ob 26 (.idx (.t 24) (.t 25) 1),Ob 27 (.load (.t 26) none),Ob 28 (.call 104 [(.t 22), (.t 27)]),Ob 20 (.mov (.t 28)),Ob 29 (.ext (.t 20) 0),Ob 30 (.ext (.t 20) 1),Ob 9 (.mov (.t 29)),Ob 10 (.mov (.t 30))])
 (.seq (.region [Ob 32 (.addr (.t 5) 2),Ob 33 (.load (.t 32) none),Ob 34 (.addr (.t 4) 6),Ob 35 (.load (.t 34) none),Ob 36 (.mov (.t 8)),Ob 37 (.idx (.t 35) (.t 36) 1),Ob 38 (.load (.t 37) none),Ob 39 (.call 104 [(.t 33), (.t 38)]),Ob 31 (.mov (.t 39)),Ob 40 (.ext (.t 31) 0),Ob 41 (.ext (.t 31) 1),Ob 11 (.mov (.t 40)),Ob 12 (.mov (.t 41))])
 (.seq (.region [Ob 42 (.mov (.t 12)),Ob 43 (.not (.t 42)),Ob 44 (.mov (.t 43)),Og 45 44 false (.mov (.t 11)),Og 46 44 false (.mov (.t 9)),Og 47 44 false (.bin .neq (.t 45) (.t 46)),Ob 48 (.pick (.t 44) (.c (.bool true)) (.t 47))])
 (.cond (.t 48) (.region [Ob 49 (.mov (.t 7)),Ob 50 (.addr (.t 4) 6),Ob 51 (.load (.t 50) none),Ob 52 (.mov (.t 8)),Ob 53 (.idx (.t 51) (.t 52) 1),Ob 54 (.load (.t 53) none),Ob 55 (.lit false 3 1 [(.t 54)]),Ob 56 (.app false (.t 49) (.t 55) 3 1 8),Ob 7 (.mov (.t 56))])
 (.skip))))))
 (.region [Ob 18 (.mov (.t 8)),Ob 19 (.bin .add (.t 18) (Ci 1)),Ob 8 (.mov (.t 19))]))))))
 (.seq (.region [Ob 57 (.mov (.t 7)),Ob 6 (.mov (.t 57))])
 (.ret))))
def r63 : List Res := [.t 6]
def a63 : AFn := ⟨3, c63, r63,.v⟩
def c64 : ACode := .seq (.region [Ob 3 (.box (.t 0) 5),Ob 4 (.box (.t 1) 7),Ob 5 (.box (.t 2) 3),Ob 6 (.mov (.c (.sl [] .tight)))])
 (.seq (.region [Ob 12 (.make (.bool false) 4 1 1 (Ci 10000) (Ci 10000)),Ob 7 (.mov (.t 12))])
 (.seq (.seq (.region [Ob 8 (.mov (Ci 0))])
 (.block 0 (.loop (.seq (.seq (.region [Ob 13 (.mov (.t 8)),Ob 14 (.addr (.t 3) 3),Ob 15 (.load (.t 14) none),Ob 16 (.len (.t 15)),Ob 17 (.bin .lss (.t 13) (.t 16))])
 (.cond (.t 17) (.skip)
 (.exit 0)))
 (.seq (.block 1 (.seq (.region [Ob 20 (.addr (.t 3) 3),Ob 21 (.load (.t 20) none),Ob 22 (.mov (.t 8)),Ob 23 (.idx (.t 21) (.t 22) 5),Ob 24 (.load (.t 23) (some 5)),Ob 9 (.new (.agg [(.int .i64 0), (.int .i64 0), (.sl [] .tight), (.int .i64 0), (.int .i64 0)]) 5),On (.store (.t 9) (.t 24) 5)])
 (.seq (.region [Ob 25 (.load (.t 3) (some 5)),Ob 26 (.load (.t 9) (some 5)),Ob 27 (.load (.t 4) (some 7)),Ob 28 (.load (.t 5) (some 3)),Ob 29 (.call 66 [(.t 25), (.t 26), (.t 27), (.t 28)])])
 (.cond (.t 29) (.seq (.region [Ob 30 (.addr (.t 9) 3),Ob 31 (.load (.t 30) none),Ob 10 (.mov (.t 31))])
 (.block 2 (.loop (.seq (.seq (.region [Ob 32 (.mov (.t 10)),Ob 33 (.addr (.t 9) 4),Ob 34 (.load (.t 33) none),Ob 35 (.bin .leq (.t 32) (.t 34))])
 (.cond (.t 35) (.skip)
 (.exit 2)))
 (.seq (.block 3 (.region [Ob 38 (.mov (.t 7)),Ob 39 (.mov (.t 10)),Ob 40 (.idx (.t 38) (.t 39) 1),On (.store (.t 40) (.c (.bool true)) 1)]))
 (.region [Ob 36 (.mov (.t 10)),Ob 37 (.bin .add (.t 36) (Ci 1)),Ob 10 (.mov (.t 37))]))))))
 (.skip)))))
 (.region [Ob 18 (.mov (.t 8)),Ob 19 (.bin .add (.t 18) (Ci 1)),Ob 8 (.mov (.t 19))]))))))
 (.seq (.seq (.region [Ob 11 (.mov (Ci 0))])
 (.block 4 (.loop (.seq (.seq (.region [Ob 41 (.mov (.t 11)),Ob 42 (.mov (.t 7)),Ob 43 (.len (.t 42)),Ob 44 (.bin .lss (.t 41) (.t 43)),Ob 45 (.mov (.t 44)),Og 46 45 true (.addr (.t 4) 5),Og 47 45 true (.load (.t 46) none),Og 48 45 true (.not (.t 47)),Ob 49 (.pick (.t 45) (.t 48) (.c (.bool false)))])
 (.cond (.t 49) (.skip)
 (.exit 4)))
 (.seq (.block 5 (.region [Ob 52 (.mov (.t 7)),Ob 53 (.mov (.t 11)),Ob 54 (.idx (.t 52) (.t 53) 1),On (.store (.t 54) (.c (.bool true)) 1)]))
 (.region [Ob 50 (.mov (.t 11)),Ob 51 (.bin .add (.t 50) (Ci 1)),Ob 11 (.mov (.t 51))]))))))
 (.seq (.region [Ob 55 (.mov (.t 7)),Ob 6 (.mov (.t 55))])
 (.ret)))))
def r64 : List Res := [.t 6]
def a64 : AFn := ⟨3, c64, r64,.v⟩
def c65 : ACode := .seq (.region [Ob 4 (.box (.t 0) 5),Ob 5 (.box (.t 1) 7),Ob 6 (.box (.t 2) 3),Ob 8 (.mov (Ci 0)),Ob 9 (.mov (Ci 0))])
 (.seq (.seq (.region [Ob 18 (.load (.t 4) (some 5)),Ob 19 (.load (.t 5) (some 7)),Ob 20 (.load (.t 6) (some 3)),Ob 21 (.call 63 [(.t 18), (.t 19), (.t 20)]),Ob 10 (.mov (.t 21))])
 (.seq (.region [Ob 22 (.mov (.t 10)),Ob 23 (.len (.t 22)),Ob 24 (.bin .gtr (.t 23) (Ci 0))])
 (.cond (.t 24) (.seq (.region [Ob 25 (.mov (.t 10)),Ob 26 (.idx (.t 25) (Ci 0) 1),Ob 27 (.load (.t 26) none),Ob 8 (.mov (Ci 1)),Ob 9 (.mov (.t 27))])
 (.ret))
 (.skip))))
 (.seq (.region [Ob 11 (.mov (Ci (-1))),Ob 12 (.mov (.c (.bool false)))])
 (.seq (.seq (.region [Ob 13 (.mov (Ci 0))])
 (.block 0 (.loop (.seq (.seq (.region [Ob 28 (.mov (.t 13)),Ob 29 (.addr (.t 4) 3),Ob 30 (.load (.t 29) none),Ob 31 (.len (.t 30)),Ob 32 (.bin .lss (.t 28) (.t 31))])
 (.cond (.t 32) (.skip)
 (.exit 0)))
 (.seq (.block 1 (.seq (.region [Ob 35 (.addr (.t 4) 3),Ob 36 (.load (.t 35) none),Ob 37 (.mov (.t 13)),Ob 38 (.idx (.t 36) (.t 37) 5),Ob 39 (.load (.t 38) (some 5)),Ob 14 (.new (.agg [(.int .i64 0), (.int .i64 0), (.sl [] .tight), (.int .i64 0), (.int .i64 0)]) 5),On (.store (.t 14) (.t 39) 5)])
 (.seq (.region [Ob 40 (.addr (.t 14) 1),Ob 41 (.load (.t 40) none),Ob 42 (.addr (.t 5) 0),Ob 43 (.load (.t 42) none),Ob 44 (.bin .eql (.t 41) (.t 43)),Ob 45 (.mov (.t 44)),Og 46 45 true (.addr (.t 4) 4),Og 47 45 true (.load (.t 46) none),Og 48 45 true (.addr (.t 14) 0),Og 49 45 true (.load (.t 48) none),Og 50 45 true (.call 26 [(.t 47), (.t 49)]),Og 51 45 true (.not (.t 50)),Ob 52 (.pick (.t 45) (.t 51) (.c (.bool false)))])
 (.cond (.t 52) (.seq (.region [Ob 53 (.mov (.t 12)),Ob 54 (.mov (.t 53)),Og 55 54 false (.load (.t 4) (some 5)),Og 56 54 false (.load (.t 14) (some 5)),Og 57 54 false (.load (.t 5) (some 7)),Og 58 54 false (.load (.t 6) (some 3)),Og 59 54 false (.call 66 [(.t 55), (.t 56), (.t 57), (.t 58)]),Ob 60 (.pick (.t 54) (.c (.bool true)) (.t 59)),Ob 12 (.mov (.t 60))])
 (.seq (.region [Ob 61 (.mov (.t 11)),Ob 62 (.bin .lss (.t 61) (Ci 0)),Ob 63 (.mov (.t 62)),Og 64 63 false (.addr (.t 14) 0),Og 65 63 false (.load (.t 64) none),Og 66 63 false (.addr (.t 4) 3),Og 67 63 false (.load (.t 66) none),Og 68 63 false (.mov (.t 11)),Og 69 63 false (.idx (.t 67) (.t 68) 5),Og 70 63 false (.addr (.t 69) 0),Og 71 63 false (.load (.t 70) none),Og 72 63 false (.bin .lss (.t 65) (.t 71)),Ob 73 (.pick (.t 63) (.c (.bool true)) (.t 72))])
 (.cond (.t 73) (.region [Ob 74 (.mov (.t 13)),Ob 11 (.mov (.t 74))])
 (.skip))))
 (.skip)))))
 (.region [Ob 33 (.mov (.t 13)),Ob 34 (.bin .add (.t 33) (Ci 1)),Ob 13 (.mov (.t 34))]))))))
 (.seq (.seq (.region [Ob 75 (.addr (.t 5) 5),Ob 76 (.load (.t 75) none),Ob 77 (.mov (.t 76)),Og 78 77 true (.mov (.t 11)),Og 79 77 true (.bin .lss (.t 78) (Ci 0)),Ob 80 (.pick (.t 77) (.t 79) (.c (.bool false)))])
 (.cond (.t 80) (.seq (.region [Ob 8 (.mov (Ci 2)),Ob 9 (.mov (Ci (-1)))])
 (.ret))
 (.skip)))
 (.seq (.seq (.region [Ob 15 (.mov (Ci 0))])
 (.block 2 (.loop (.seq (.seq (.region [Ob 81 (.mov (.t 15)),Ob 82 (.addr (.t 6) 1),Ob 83 (.load (.t 82) none),Ob 84 (.len (.t 83)),Ob 85 (.bin .lss (.t 81) (.t 84)),Ob 86 (.mov (.t 85)),Og 87 86 true (.addr (.t 5) 5),Og 88 86 true (.load (.t 87) none),Ob 89 (.pick (.t 86) (.t 88) (.c (.bool false))),Ob 90 (.mov (.t 89)),Og 91 90 true (.mov (.t 12)),Og 92 90 true (.not (.t 91)),Ob 93 (.pick (.t 90) (.t 92) (.c (.bool false)))])
 (.cond (.t 93) (.skip)
 (.exit 2)))
 (.seq (.block 3 (.seq (.region [Ob 96 (.addr (.t 4) 3),Ob 97 (.load (.t 96) none),Ob 98 (.mov (.t 11)),Ob 99 (.idx (.t 97) (.t 98) 5),Ob 100 (.addr (.t 99) 2),Ob 101 (.load (.t 100) none),Ob 102 (.addr (.t 6) 1),Ob 103 (.load (.t 102) none),Ob 104 (.mov (.t 15)),Ob 105 (.idx (.t 103) (.t 104) 1),Ob 106 (.load (.t 105) none),Ob 107 (.call 26 [(.t 101), (.t 106)]),Ob 108 (.not (.t 107))])
 (.cond (.t 108) (.seq (.region [Ob 109 (.addr (.t 6) 1),Ob 110 (.load (.t 109) none),Ob 111 (.mov (.t 15)),Ob 112 (.idx (.t 110) (.t 111) 1),Ob 113 (.load (.t 112) none),Ob 8 (.mov (Ci 3)),Ob 9 (.mov (.t 113))])
 (.ret))
 (.skip))))
 (.region [Ob 94 (.mov (.t 15)),Ob 95 (.bin .add (.t 94) (Ci 1)),Ob 15 (.mov (.t 95))]))))))
 (.seq (.region [Ob 114 (.load (.t 4) (some 5)),Ob 115 (.load (.t 5) (some 7)),Ob 116 (.load (.t 6) (some 3)),Ob 117 (.call 64 [(.t 114), (.t 115), (.t 116)]),Ob 16 (.mov (.t 117))])
 (.seq (.seq (.region [Ob 118 (.mov (.t 3)),Ob 17 (.mov (.t 118))])
 (.block 4 (.loop (.seq (.seq (.region [Ob 119 (.mov (.t 17)),Ob 120 (.mov (.t 3)),Ob 121 (.addr (.t 5) 4),Ob 122 (.load (.t 121) none),Ob 123 (.bin .add (.t 120) (.t 122)),Ob 124 (.bin .lss (.t 119) (.t 123))])
 (.cond (.t 124) (.skip)
 (.exit 4)))
 (.seq (.block 5 (.seq (.region [Ob 127 (.mov (.t 17)),Ob 128 (.bin .gtr (.t 127) (Ci 9999)),Ob 129 (.mov (.t 128)),Og 130 129 false (.mov (.t 16)),Og 131 129 false (.mov (.t 17)),Og 132 129 false (.idx (.t 130) (.t 131) 1),Og 133 129 false (.load (.t 132) none),Og 134 129 false (.not (.t 133)),Ob 135 (.pick (.t 129) (.c (.bool true)) (.t 134))])
 (.cond (.t 135) (.seq (.region [Ob 136 (.mov (.t 17)),Ob 8 (.mov (Ci 4)),Ob 9 (.mov (.t 136))])
 (.ret))
 (.skip))))
 (.region [Ob 125 (.mov (.t 17)),Ob 126 (.bin .add (.t 125) (Ci 1)),Ob 17 (.mov (.t 126))]))))))
 (.seq (.region [Ob 137 (.mov (.t 3)),Ob 138 (.addr (.t 5) 4),Ob 139 (.load (.t 138) none),Ob 140 (.bin .add (.t 137) (.t 139)),Ob 141 (.bin .sub (.t 140) (Ci 1)),Ob 8 (.mov (Ci 0)),Ob 9 (.mov (.t 141))])
 (.ret)))))))))
def r65 : List Res := [.t 8,.t 9]
def a65 : AFn := ⟨4, c65, r65,.v⟩
def c66 : ACode := .seq (.region [Ob 4 (.box (.t 0) 5),Ob 5 (.box (.t 1) 5),Ob 6 (.box (.t 2) 7),Ob 7 (.box (.t 3) 3),Ob 8 (.mov (.c (.bool false)))])
 (.seq (.seq (.region [Ob 9 (.mov (Ci 0))])
 (.block 0 (.loop (.seq (.seq (.region [Ob 10 (.mov (.t 9)),Ob 11 (.addr (.t 7) 1),Ob 12 (.load (.t 11) none),Ob 13 (.len (.t 12)),Ob 14 (.bin .lss (.t 10) (.t 13))])
 (.cond (.t 14) (.skip)
 (.exit 0)))
 (.seq (.block 1 (.seq (.region [Ob 17 (.addr (.t 5) 2),Ob 18 (.load (.t 17) none),Ob 19 (.addr (.t 7) 1),Ob 20 (.load (.t 19) none),Ob 21 (.mov (.t 9)),Ob 22 (.idx (.t 20) (.t 21) 1),Ob 23 (.load (.t 22) none),Ob 24 (.call 26 [(.t 18), (.t 23)]),Ob 25 (.not (.t 24))])
 (.cond (.t 25) (.seq (.region [Ob 8 (.mov (.c (.bool false)))])
 (.ret))
 (.skip))))
 (.region [Ob 15 (.mov (.t 9)),Ob 16 (.bin .add (.t 15) (Ci 1)),Ob 9 (.mov (.t 16))]))))))
 (.seq (.region [Ob 26 (.addr (.t 5) 1),Ob 27 (.load (.t 26) none),Ob 28 (.addr (.t 6) 0),Ob 29 (.load (.t 28) none),Ob 30 (.bin .eql (.t 27) (.t 29)),Ob 31 (.mov (.t 30)),Og 32 31 true (.addr (.t 4) 4),Og 33 31 true (.load (.t 32) none),Og 34 31 true (.addr (.t 5) 0),Og 35 31 true (.load (.t 34) none),Og 36 31 true (.call 26 [(.t 33), (.t 35)]),Og 37 31 true (.not (.t 36)),Ob 38 (.pick (.t 31) (.t 37) (.c (.bool false))),Ob 8 (.mov (.t 38))])
 (.ret)))
def r66 : List Res := [.t 8]
def a66 : AFn := ⟨4, c66, r66,.v⟩
def c67 : ACode := .seq (.region [Ob 2 (.box (.t 0) 5),Ob 3 (.box (.t 1) 1),Ob 4 (.new (.agg [(.int .i64 0), (.sl [] .tight), (.sl [] .tight)]) 3),Ob 5 (.mov (.c (.bool false)))])
 (.seq (.region [Ob 6 (.addr (.t 2) 2),Ob 7 (.load (.t 6) none),Ob 8 (.clo 106 [] [(.t 3)]),Ob 9 (.call 105 [(.t 7), (.t 8)]),Ob 10 (.ext (.t 9) 0),Ob 11 (.ext (.t 9) 1),On (.store (.t 4) (.t 10) 3),Ob 5 (.mov (.t 11))])
 (.ret))
def r67 : List Res := [.cell 4 (some 3),.t 5]
def a67 : AFn := ⟨2, c67, r67,.v⟩
def c68 : ACode := .seq (.region [Ob 2 (.mov (.c (.bool false)))])
 (.seq (.region [Ob 3 (.mov (.t 0)),Ob 4 (.call 107 [(.t 3), (Ci 0), (Ci 9999)]),Ob 2 (.mov (.t 4))])
 (.ret))
def r68 : List Res := [.t 2]
def a68 : AFn := ⟨1, c68, r68,.v⟩
def c69 : ACode := .seq (.region [Ob 1 (.box (.t 0) 7),Ob 2 (.mov (.c (.bool false)))])
 (.seq (.region [Ob 3 (.addr (.t 1) 1),Ob 4 (.load (.t 3) none),Ob 5 (.call 108 [(.t 4)]),Ob 6 (.mov (.t 5)),Og 7 6 true (.addr (.t 1) 2),Og 8 6 true (.load (.t 7) none),Og 9 6 true (.call 107 [(.t 8), (Ci (-1)), (Ci 9)]),Ob 10 (.pick (.t 6) (.t 9) (.c (.bool false))),Ob 11 (.mov (.t 10)),Og 12 11 true (.addr (.t 1) 3),Og 13 11 true (.load (.t 12) none),Og 14 11 true (.call 107 [(.t 13), (Ci (-1)), (Ci 9)]),Ob 15 (.pick (.t 11) (.t 14) (.c (.bool false))),Ob 2 (.mov (.t 15))])
 (.ret))
def r69 : List Res := [.t 2]
def a69 : AFn := ⟨1, c69, r69,.v⟩
def c70 : ACode := .seq (.region [Ob 2 (.box (.t 0) 7),Ob 3 (.box (.t 1) 7),Ob 4 (.mov (.c (.bool false)))])
 (.seq (.region [Ob 5 (.mov (.c (.fn 109 [] [])))])
 (.seq (.region [Ob 6 (.addr (.t 2) 1),Ob 7 (.load (.t 6) none),Ob 8 (.addr (.t 3) 1),Ob 9 (.load (.t 8) none),Ob 10 (.bin .eql (.t 7) (.t 9)),Ob 11 (.mov (.t 10)),Og 12 11 true (.mov (.t 5)),Og 13 11 true (.addr (.t 2) 2),Og 14 11 true (.load (.t 13) none),Og 15 11 true (.addr (.t 3) 2),Og 16 11 true (.load (.t 15) none),Og 17 11 true (.callv (.t 12) [(.t 14), (.t 16)]),Ob 18 (.pick (.t 11) (.t 17) (.c (.bool false))),Ob 19 (.mov (.t 18)),Og 20 19 true (.mov (.t 5)),Og 21 19 true (.addr (.t 2) 3),Og 22 19 true (.load (.t 21) none),Og 23 19 true (.addr (.t 3) 3),Og 24 19 true (.load (.t 23) none),Og 25 19 true (.callv (.t 20) [(.t 22), (.t 24)]),Ob 26 (.pick (.t 19) (.t 25) (.c (.bool false))),Ob 4 (.mov (.t 26))])
 (.ret)))
def r70 : List Res := [.t 4]
def a70 : AFn := ⟨2, c70, r70,.v⟩
def c71 : ACode := .seq (.region [Ob 3 (.box (.t 0) 5),Ob 4 (.box (.t 1) 7),Ob 5 (.box (.t 2) 3),Ob 6 (.new (.agg [(.int .i64 0), (.int .i64 0), (.int .i64 0), (.int .i64 0), (.int .i64 0), (.bool false), (.sl [] .tight), (.sl [] .tight), (.sl [] .tight), (.sl [] .tight), (.sl [] .tight), (.sl [] .tight)]) 12)])
 (.seq (.region [Ob 14 (.load (.t 4) (some 7)),Ob 15 (.addr (.t 5) 1),Ob 16 (.load (.t 15) none),Ob 17 (.build [(.int .i64 0), (.int .i64 0), (.int .i64 0), (.int .i64 0), (.int .i64 0), (.bool false), (.sl [] .tight), (.sl [] .tight), (.sl [] .tight), (.sl [] .tight), (.sl [] .tight), (.sl [] .tight)] [(0, 7, (.t 14)), (7, 1, (.t 16))]),Ob 7 (.new (.agg [(.int .i64 0), (.int .i64 0), (.int .i64 0), (.int .i64 0), (.int .i64 0), (.bool false), (.sl [] .tight), (.sl [] .tight), (.sl [] .tight), (.sl [] .tight), (.sl [] .tight), (.sl [] .tight)]) 12),On (.store (.t 7) (.t 17) 12)])
 (.seq (.region [Ob 18 (.addr (.t 3) 0),Ob 19 (.load (.t 18) none),Ob 20 (.addr (.t 4) 6),Ob 21 (.load (.t 20) none),Ob 22 (.addr (.t 5) 2),Ob 23 (.load (.t 22) none),Ob 24 (.call 110 [(.t 19), (.t 21), (.t 23)]),Ob 25 (.addr (.t 7) 8),On (.store (.t 25) (.t 24) 1)])
 (.seq (.seq (.region [Ob 26 (.addr (.t 3) 3),Ob 27 (.load (.t 26) none),Ob 28 (.len (.t 27)),Ob 29 (.mov (Ci 0))])
 (.block 0 (.loop (.seq (.region [Ob 30 (.bin .lss (.t 29) (.t 28))])
 (.seq (.cond (.t 30) (.skip)
 (.exit 0))
 (.seq (.block 1 (.seq (.region [Ob 31 (.idx (.t 27) (.t 29) 5),Ob 32 (.load (.t 31) (some 5)),Ob 9 (.new (.agg [(.int .i64 0), (.int .i64 0), (.sl [] .tight), (.int .i64 0), (.int .i64 0)]) 5),On (.store (.t 9) (.t 32) 5)])
 (.seq (.region [Ob 33 (.addr (.t 9) 1),Ob 34 (.load (.t 33) none),Ob 35 (.addr (.t 4) 0),Ob 36 (.load (.t 35) none),Ob 37 (.bin .eql (.t 34) (.t 36)),Ob 38 (.mov (.t 37)),Og 39 38 true (.addr (.t 3) 4),Og 40 38 true (.load (.t 39) none),Og 41 38 true (.addr (.t 9) 0),Og 42 38 true (.load (.t 41) none),Og 43 38 true (.call 111 [(.t 40), (.t 42)]),Og 44 38 true (.not (.t 43)),Ob 45 (.pick (.t 38) (.t 44) (.c (.bool false)))])
 (.cond (.t 45) (.region [Ob 46 (.addr (.t 7) 9),Ob 47 (.load (.t 46) none),Ob 48 (.load (.t 9) (some 5)),Ob 49 (.lit false 37 5 [(.t 48)]),Ob 50 (.app false (.t 47) (.t 49) 37 5 56),Ob 51 (.addr (.t 7) 9),On (.store (.t 51) (.t 50) 1)])
 (.skip)))))
 (.region [Ob 52 (.bin .add (.t 29) (Ci 1)),Ob 29 (.mov (.t 52))])))))))
 (.seq (.seq (.region [Ob 53 (.addr (.t 7) 9),Ob 54 (.load (.t 53) none),Ob 55 (.len (.t 54)),Ob 56 (.mov (Ci 0))])
 (.block 2 (.loop (.seq (.region [Ob 57 (.bin .lss (.t 56) (.t 55))])
 (.seq (.cond (.t 57) (.skip)
 (.exit 2))
 (.seq (.block 3 (.seq (.region [Ob 58 (.idx (.t 54) (.t 56) 5),Ob 59 (.load (.t 58) (some 5)),Ob 11 (.new (.agg [(.int .i64 0), (.int .i64 0), (.sl [] .tight), (.int .i64 0), (.int .i64 0)]) 5),On (.store (.t 11) (.t 59) 5)])
 (.seq (.region [Ob 61 (.load (.t 7) (some 12)),Ob 62 (.load (.t 11) (some 5)),Ob 63 (.call 77 [(.t 61), (.t 62)]),Ob 60 (.mov (.t 63)),Ob 64 (.ext (.t 60) 0),Ob 65 (.ext (.t 60) 1),Ob 12 (.mov (.t 64)),Ob 13 (.mov (.t 65))])
 (.seq (.region [Ob 66 (.mov (.t 13)),Ob 67 (.not (.t 66))])
 (.cond (.t 67) (.region [Ob 68 (.addr (.t 7) 10),Ob 69 (.load (.t 68) none),Ob 70 (.load (.t 11) (some 5)),Ob 71 (.lit false 37 5 [(.t 70)]),Ob 72 (.app false (.t 69) (.t 71) 37 5 56),Ob 73 (.addr (.t 7) 10),On (.store (.t 73) (.t 72) 1)])
 (.skip))))))
 (.region [Ob 74 (.bin .add (.t 56) (Ci 1)),Ob 56 (.mov (.t 74))])))))))
 (.seq (.region [Ob 75 (.load (.t 7) (some 12)),Ob 76 (.call 112 [(.t 75)]),Ob 77 (.addr (.t 7) 11),On (.store (.t 77) (.t 76) 1)])
 (.seq (.region [Ob 78 (.load (.t 7) (some 12)),On (.store (.t 6) (.t 78) 12)])
 (.ret)))))))
def r71 : List Res := [.cell 6 (some 12)]
def a71 : AFn := ⟨3, c71, r71,.v⟩
def c72 : ACode := .seq (.region [Ob 3 (.mov (.t 0)),Ob 4 (.len (.t 3)),Ob 2 (.mov (.t 4))])
 (.region [Ob 5 (.mov (.t 0)),Ob 6 (.mov (.t 2)),Ob 7 (.mov (.t 2)),Ob 8 (.conv .u64 (.t 7)),Ob 9 (.call 114 [(.t 8)]),Ob 10 (.call 113 [(.t 5), (Ci 0), (.t 6), (.t 9)])])
def r72 : List Res := []
def a72 : AFn := ⟨1, c72, r72,.r⟩
def c73 : ACode := .seq (.region [Ob 6 (.mov (.c (.bool false)))])
 (.seq (.region [Ob 7 (.mov (.t 0)),Ob 8 (.mov (.t 1)),Ob 9 (.bin .geq (.t 7) (.t 8)),Ob 10 (.mov (.t 9)),Og 11 10 true (.mov (.t 0)),Og 12 10 true (.mov (.t 2)),Og 13 10 true (.bin .leq (.t 11) (.t 12)),Ob 14 (.pick (.t 10) (.t 13) (.c (.bool false))),Ob 6 (.mov (.t 14))])
 (.ret))
def r73 : List Res := [.t 6]
def a73 : AFn := ⟨3, c73, r73,.v⟩
def c75 : ACode := .seq (.region [Ob 2 (.box (.t 0) 5),Ob 3 (.box (.t 1) 5),Ob 4 (.mov (Ci 0))])
 (.seq (.region [Ob 5 (.addr (.t 2) 0),Ob 6 (.load (.t 5) none),Ob 7 (.addr (.t 3) 0),Ob 8 (.load (.t 7) none),Ob 9 (.call 76 [(.t 6), (.t 8)]),Ob 4 (.mov (.t 9))])
 (.ret))
def r75 : List Res := [.t 4]
def a75 : AFn := ⟨2, c75, r75,.v⟩
def c76 : ACode := .seq (.region [Ob 4 (.mov (Ci 0))])
 (.seq (.region [Ob 7 (.mov (.t 0)),Ob 8 (.call 115 [(.t 7)]),Ob 5 (.mov (.t 8))])
 (.seq (.region [Ob 9 (.mov (.t 1)),Ob 10 (.call 115 [(.t 9)]),Ob 6 (.mov (.t 10))])
 (.seq (.seq (.region [Ob 11 (.mov (.t 5))])
 (.cond (.t 11) (.seq (.seq (.region [Ob 12 (.mov (.t 6))])
 (.cond (.t 12) (.seq (.region [Ob 4 (.mov (Ci 0))])
 (.ret))
 (.skip)))
 (.seq (.region [Ob 4 (.mov (Ci (-1)))])
 (.ret)))
 (.skip)))
 (.seq (.seq (.region [Ob 13 (.mov (.t 6))])
 (.cond (.t 13) (.seq (.region [Ob 4 (.mov (Ci 1))])
 (.ret))
 (.skip)))
 (.seq (.seq (.region [Ob 14 (.mov (.t 0)),Ob 15 (.mov (.t 1)),Ob 16 (.bin .lss (.t 14) (.t 15))])
 (.cond (.t 16) (.seq (.region [Ob 4 (.mov (Ci (-1)))])
 (.ret))
 (.skip)))
 (.seq (.seq (.region [Ob 17 (.mov (.t 0)),Ob 18 (.mov (.t 1)),Ob 19 (.bin .gtr (.t 17) (.t 18))])
 (.cond (.t 19) (.seq (.region [Ob 4 (.mov (Ci 1))])
 (.ret))
 (.skip)))
 (.seq (.region [Ob 4 (.mov (Ci 0))])
 (.ret))))))))
def r76 : List Res := [.t 4]
def a76 : AFn := ⟨2, c76, r76,.v⟩
def c77 : ACode := .seq (.region [Ob 2 (.box (.t 0) 12),Ob 3 (.box (.t 1) 5),Ob 4 (.mov (Ci 0)),Ob 5 (.mov (.c (.bool false)))])
 (.seq (.region [Ob 6 (.addr (.t 2) 7),Ob 7 (.load (.t 6) none),Ob 8 (.clo 117 [] [(.t 3)]),Ob 9 (.call 116 [(.t 7), (.t 8)]),Ob 10 (.ext (.t 9) 0),Ob 11 (.ext (.t 9) 1),Ob 4 (.mov (.t 10)),Ob 5 (.mov (.t 11))])
 (.ret))
def r77 : List Res := [.t 4,.t 5]
def a77 : AFn := ⟨2, c77, r77,.v⟩
def c78 : ACode := .seq (.region [Ob 4 (.new (.agg [(.int .i64 0), (.int .i64 0), (.sl [] .tight), (.int .i64 0), (.int .i64 0)]) 5)])
 (.seq (.seq (.region [Ob 7 (.mov (.t 0)),Ob 8 (.len (.t 7)),Ob 9 (.bin .lss (.t 8) (Ci 1))])
 (.cond (.t 9) (.region [Ob 10 (.bad),On (.bad)])
 (.skip)))
 (.seq (.region [Ob 11 (.mov (.t 0)),Ob 12 (.idx (.t 11) (Ci 0) 5),Ob 13 (.load (.t 12) (some 5)),Ob 5 (.new (.agg [(.int .i64 0), (.int .i64 0), (.sl [] .tight), (.int .i64 0), (.int .i64 0)]) 5),On (.store (.t 5) (.t 13) 5)])
 (.seq (.seq (.region [Ob 6 (.mov (Ci 1))])
 (.block 0 (.loop (.seq (.seq (.region [Ob 14 (.mov (.t 6)),Ob 15 (.mov (.t 0)),Ob 16 (.len (.t 15)),Ob 17 (.bin .lss (.t 14) (.t 16))])
 (.cond (.t 17) (.skip)
 (.exit 0)))
 (.seq (.block 1 (.seq (.region [Ob 20 (.mov (.t 1)),Ob 21 (.mov (.t 0)),Ob 22 (.mov (.t 6)),Ob 23 (.idx (.t 21) (.t 22) 5),Ob 24 (.load (.t 23) (some 5)),Ob 25 (.load (.t 5) (some 5)),Ob 26 (.callv (.t 20) [(.t 24), (.t 25)]),Ob 27 (.bin .lss (.t 26) (Ci 0))])
 (.cond (.t 27) (.region [Ob 28 (.mov (.t 0)),Ob 29 (.mov (.t 6)),Ob 30 (.idx (.t 28) (.t 29) 5),Ob 31 (.load (.t 30) (some 5)),On (.store (.t 5) (.t 31) 5)])
 (.skip))))
 (.region [Ob 18 (.mov (.t 6)),Ob 19 (.bin .add (.t 18) (Ci 1)),Ob 6 (.mov (.t 19))]))))))
 (.seq (.region [Ob 32 (.load (.t 5) (some 5)),On (.store (.t 4) (.t 32) 5)])
 (.ret)))))
def r78 : List Res := [.cell 4 (some 5)]
def a78 : AFn := ⟨2, c78, r78,.v⟩
def c79 : ACode := .seq (.region [Ob 2 (.box (.t 0) 12),Ob 3 (.box (.t 1) 1),Ob 4 (.mov (Ci 0))])
 (.seq (.region [Ob 8 (.addr (.t 2) 11),Ob 9 (.load (.t 8) none),Ob 10 (.clo 118 [] [(.t 3)]),Ob 11 (.call 59 [(.t 9), (.t 10)]),Ob 7 (.mov (.t 11)),Ob 12 (.ext (.t 7) 0),Ob 13 (.ext (.t 7) 1),Ob 5 (.new (.agg [(.int .i64 0), (.int .i64 0)]) 2),On (.store (.t 5) (.t 12) 2),Ob 6 (.mov (.t 13))])
 (.seq (.seq (.region [Ob 14 (.mov (.t 6)),Ob 15 (.not (.t 14))])
 (.cond (.t 15) (.seq (.region [Ob 16 (.load (.t 3) none),Ob 4 (.mov (.t 16))])
 (.ret))
 (.skip)))
 (.seq (.region [Ob 17 (.addr (.t 5) 1),Ob 18 (.load (.t 17) none),Ob 19 (.bin .add (.t 18) (Ci 1)),Ob 4 (.mov (.t 19))])
 (.ret))))
def r79 : List Res := [.t 4]
def a79 : AFn := ⟨2, c79, r79,.v⟩
def c81 : ACode := .seq (.region [Ob 2 (.box (.t 0) 5),Ob 3 (.box (.t 1) 5),Ob 4 (.mov (.c (.bool false)))])
 (.seq (.region [Ob 5 (.addr (.t 2) 0),Ob 6 (.load (.t 5) none),Ob 7 (.addr (.t 3) 0),Ob 8 (.load (.t 7) none),Ob 9 (.bin .eql (.t 6) (.t 8)),Ob 10 (.mov (.t 9)),Og 11 10 true (.addr (.t 2) 1),Og 12 10 true (.load (.t 11) none),Og 13 10 true (.addr (.t 3) 1),Og 14 10 true (.load (.t 13) none),Og 15 10 true (.bin .eql (.t 12) (.t 14)),Ob 16 (.pick (.t 10) (.t 15) (.c (.bool false))),Ob 17 (.mov (.t 16)),Og 18 17 true (.addr (.t 2) 3),Og 19 17 true (.load (.t 18) none),Og 20 17 true (.addr (.t 3) 3),Og 21 17 true (.load (.t 20) none),Og 22 17 true (.bin .eql (.t 19) (.t 21)),Ob 23 (.pick (.t 17) (.t 22) (.c (.bool false))),Ob 24 (.mov (.t 23)),Og 25 24 true (.addr (.t 2) 4),Og 26 24 true (.load (.t 25) none),Og 27 24 true (.addr (.t 3) 4),Og 28 24 true (.load (.t 27) none),Og 29 24 true (.bin .eql (.t 26) (.t 28)),Ob 30 (.pick (.t 24) (.t 29) (.c (.bool false))),Ob 31 (.mov (.t 30)),Og 32 31 true (.addr (.t 2) 2),Og 33 31 true (.load (.t 32) none),Og 34 31 true (.addr (.t 3) 2),Og 35 31 true (.load (.t 34) none),Og 36 31 true (.call 119 [(.t 33), (.t 35)]),Ob 37 (.pick (.t 31) (.t 36) (.c (.bool false))),Ob 4 (.mov (.t 37))])
 (.ret))
def r81 : List Res := [.t 4]
def a81 : AFn := ⟨2, c81, r81,.v⟩
def c82 : ACode := .seq (.region [Ob 4 (.mov (.c (.bool false)))])
 (.seq (.region [Ob 5 (.mov (.t 0)),Ob 6 (.mov (.t 1)),Ob 7 (.call 120 [(.t 5), (.t 6)]),Ob 8 (.bin .geq (.t 7) (Ci 0)),Ob 4 (.mov (.t 8))])
 (.ret))
def r82 : List Res := [.t 4]
def a82 : AFn := ⟨2, c82, r82,.v⟩
def c83 : ACode := .seq (.region [Ob 5 (.mov (.t 0)),Ob 6 (.len (.t 5)),Ob 4 (.mov (.t 6))])
 (.region [Ob 7 (.mov (.t 0)),Ob 8 (.mov (.t 4)),Ob 9 (.mov (.t 4)),Ob 10 (.conv .u64 (.t 9)),Ob 11 (.call 114 [(.t 10)]),Ob 12 (.mov (.t 1)),Ob 13 (.call 121 [(.t 7), (Ci 0), (.t 8), (.t 11), (.t 12)])])
def r83 : List Res := []
def a83 : AFn := ⟨2, c83, r83,.r⟩
def c86 : ACode := .seq (.region [Ob 0 (.mov (.c .nilf))])
 (.seq (.region [Ob 2 (.mkmap .i),Ob 1 (.new .nilm 1),On (.store (.t 1) (.t 2) 1)])
 (.seq (.region [Ob 3 (.clo 122 [] [(.t 1)]),Ob 0 (.mov (.t 3))])
 (.ret)))
def r86 : List Res := [.t 0]
def a86 : AFn := ⟨0, c86, r86,.r⟩
def c93 : ACode := .seq (.region [Ob 2 (.box (.t 0) 5),Ob 3 (.box (.t 1) 5),Ob 4 (.mov (.c (.bool false)))])
 (.seq (.region [Ob 5 (.addr (.t 2) 0),Ob 6 (.load (.t 5) none),Ob 7 (.addr (.t 3) 0),Ob 8 (.load (.t 7) none),Ob 9 (.bin .eql (.t 6) (.t 8)),Ob 10 (.mov (.t 9)),Og 11 10 true (.addr (.t 2) 1),Og 12 10 true (.load (.t 11) none),Og 13 10 true (.addr (.t 3) 1),Og 14 10 true (.load (.t 13) none),Og 15 10 true (.bin .eql (.t 12) (.t 14)),Ob 16 (.pick (.t 10) (.t 15) (.c (.bool false))),Ob 17 (.mov (.t 16)),Og 18 17 true (.addr (.t 2) 3),Og 19 17 true (.load (.t 18) none),Og 20 17 true (.addr (.t 3) 3),Og 21 17 true (.load (.t 20) none),Og 22 17 true (.bin .eql (.t 19) (.t 21)),Ob 23 (.pick (.t 17) (.t 22) (.c (.bool false))),Ob 24 (.mov (.t 23)),Og 25 24 true (.addr (.t 2) 4),Og 26 24 true (.load (.t 25) none),Og 27 24 true (.addr (.t 3) 4),Og 28 24 true (.load (.t 27) none),Og 29 24 true (.bin .eql (.t 26) (.t 28)),Ob 30 (.pick (.t 24) (.t 29) (.c (.bool false))),Ob 31 (.mov (.t 30)),Og 32 31 true (.addr (.t 2) 2),Og 33 31 true (.load (.t 32) none),Og 34 31 true (.addr (.t 3) 2),Og 35 31 true (.load (.t 34) none),Og 36 31 true (.call 123 [(.t 33), (.t 35)]),Ob 37 (.pick (.t 31) (.t 36) (.c (.bool false))),Ob 4 (.mov (.t 37))])
 (.ret))
def r93 : List Res := [.t 4]
def a93 : AFn := ⟨2, c93, r93,.v⟩
def c94 : ACode := .seq (.region [Ob 2 (.box (.t 0) 5),Ob 3 (.box (.t 1) 1),Ob 4 (.new (.agg [(.int .i64 0), (.int .i64 0), (.int .i64 0), (.int .i64 0), (.int .i64 0), (.bool false), (.sl [] .tight)]) 7),Ob 5 (.mov (.c (.bool false)))])
 (.seq (.region [Ob 6 (.addr (.t 2) 1),Ob 7 (.load (.t 6) none),Ob 8 (.clo 125 [] [(.t 3)]),Ob 9 (.call 124 [(.t 7), (.t 8)]),Ob 10 (.ext (.t 9) 0),Ob 11 (.ext (.t 9) 1),On (.store (.t 4) (.t 10) 7),Ob 5 (.mov (.t 11))])
 (.ret))
def r94 : List Res := [.cell 4 (some 7),.t 5]
def a94 : AFn := ⟨2, c94, r94,.v⟩
def c95 : ACode := .seq (.region [Ob 2 (.mov (.c (.bool false)))])
 (.seq (.seq (.region [Ob 3 (.mov (Ci 0))])
 (.block 0 (.loop (.seq (.seq (.region [Ob 5 (.mov (.t 3)),Ob 6 (.mov (.t 0)),Ob 7 (.len (.t 6)),Ob 8 (.bin .lss (.t 5) (.t 7))])
 (.cond (.t 8) (.skip)
 (.exit 0)))
 (.seq (.block 1 (.seq (.seq (.region [Ob 11 (.mov (.t 0)),Ob 12 (.mov (.t 3)),Ob 13 (.idx (.t 11) (.t 12) 2),Ob 14 (.addr (.t 13) 0),Ob 15 (.load (.t 14) none),Ob 16 (.call 73 [(.t 15), (Ci 0), (Ci 99)]),Ob 17 (.not (.t 16)),Ob 18 (.mov (.t 17)),Og 19 18 false (.mov (.t 0)),Og 20 18 false (.mov (.t 3)),Og 21 18 false (.idx (.t 19) (.t 20) 2),Og 22 18 false (.addr (.t 21) 1),Og 23 18 false (.load (.t 22) none),Og 24 18 false (.call 73 [(.t 23), (Ci 0), (Ci 999)]),Og 25 18 false (.not (.t 24)),Ob 26 (.pick (.t 18) (.c (.bool true)) (.t 25))])
 (.cond (.t 26) (.seq (.region [Ob 2 (.mov (.c (.bool false)))])
 (.ret))
 (.skip)))
 (.seq (.region [Ob 4 (.mov (Ci 0))])
 (.block 2 (.loop (.seq (.seq (.region [Ob 27 (.mov (.t 4)),Ob 28 (.mov (.t 3)),Ob 29 (.bin .lss (.t 27) (.t 28))])
 (.cond (.t 29) (.skip)
 (.exit 2)))
 (.seq (.block 3 (.seq (.region [Ob 32 (.mov (.t 0)),Ob 33 (.mov (.t 4)),Ob 34 (.idx (.t 32) (.t 33) 2),Ob 35 (.addr (.t 34) 0),Ob 36 (.load (.t 35) none),Ob 37 (.mov (.t 0)),Ob 38 (.mov (.t 3)),Ob 39 (.idx (.t 37) (.t 38) 2),Ob 40 (.addr (.t 39) 0),Ob 41 (.load (.t 40) none),Ob 42 (.bin .eql (.t 36) (.t 41))])
 (.cond (.t 42) (.seq (.region [Ob 2 (.mov (.c (.bool false)))])
 (.ret))
 (.skip))))
 (.region [Ob 30 (.mov (.t 4)),Ob 31 (.bin .add (.t 30) (Ci 1)),Ob 4 (.mov (.t 31))]))))))))
 (.region [Ob 9 (.mov (.t 3)),Ob 10 (.bin .add (.t 9) (Ci 1)),Ob 3 (.mov (.t 10))]))))))
 (.seq (.region [Ob 2 (.mov (.c (.bool true)))])
 (.ret)))
def r95 : List Res := [.t 2]
def a95 : AFn := ⟨1, c95, r95,.v⟩
def c96 : ACode := .seq (.region [Ob 3 (.box (.t 1) 7),Ob 4 (.mov (.c (.bool false)))])
 (.seq (.seq (.region [Ob 5 (.mov (Ci 0))])
 (.block 0 (.loop (.seq (.seq (.region [Ob 8 (.mov (.t 5)),Ob 9 (.addr (.t 3) 6),Ob 10 (.load (.t 9) none),Ob 11 (.len (.t 10)),Ob 12 (.bin .lss (.t 8) (.t 11))])
 (.cond (.t 12) (.skip)
 (.exit 0)))
 (.seq (.block 1 (.seq (.region [Ob 16 (.mov (.t 0)),Ob 17 (.addr (.t 3) 6),Ob 18 (.load (.t 17) none),Ob 19 (.mov (.t 5)),Ob 20 (.idx (.t 18) (.t 19) 1),Ob 21 (.load (.t 20) none),Ob 22 (.call 104 [(.t 16), (.t 21)]),Ob 15 (.mov (.t 22)),Ob 23 (.ext (.t 15) 0),Ob 24 (.ext (.t 15) 1),Ob 6 (.mov (.t 23)),Ob 7 (.mov (.t 24))])
 (.seq (.region [Ob 25 (.mov (.t 7)),Ob 26 (.not (.t 25))])
 (.cond (.t 26) (.seq (.region [Ob 4 (.mov (.c (.bool false)))])
 (.ret))
 (.skip)))))
 (.region [Ob 13 (.mov (.t 5)),Ob 14 (.bin .add (.t 13) (Ci 1)),Ob 5 (.mov (.t 14))]))))))
 (.seq (.region [Ob 27 (.addr (.t 3) 0),Ob 28 (.load (.t 27) none),Ob 29 (.call 73 [(.t 28), (Ci 0), (Ci 99)]),Ob 30 (.mov (.t 29)),Og 31 30 true (.addr (.t 3) 1),Og 32 30 true (.load (.t 31) none),Og 33 30 true (.call 73 [(.t 32), (Ci 0), (Ci 99)]),Ob 34 (.pick (.t 30) (.t 33) (.c (.bool false))),Ob 35 (.mov (.t 34)),Og 36 35 true (.addr (.t 3) 2),Og 37 35 true (.load (.t 36) none),Og 38 35 true (.call 73 [(.t 37), (Ci 0), (Ci 9)]),Ob 39 (.pick (.t 35) (.t 38) (.c (.bool false))),Ob 40 (.mov (.t 39)),Og 41 40 true (.addr (.t 3) 3),Og 42 40 true (.load (.t 41) none),Og 43 40 true (.call 73 [(.t 42), (Ci 0), (Ci 9)]),Ob 44 (.pick (.t 40) (.t 43) (.c (.bool false))),Ob 45 (.mov (.t 44)),Og 46 45 true (.addr (.t 3) 4),Og 47 45 true (.load (.t 46) none),Og 48 45 true (.call 73 [(.t 47), (Ci 1), (Ci 400)]),Ob 49 (.pick (.t 45) (.t 48) (.c (.bool false))),Ob 50 (.mov (.t 49)),Og 51 50 true (.addr (.t 3) 6),Og 52 50 true (.load (.t 51) none),Og 53 50 true (.len (.t 52)),Og 54 50 true (.bin .gtr (.t 53) (Ci 0)),Ob 55 (.pick (.t 50) (.t 54) (.c (.bool false))),Ob 56 (.mov (.t 55)),Og 57 56 true (.addr (.t 3) 6),Og 58 56 true (.load (.t 57) none),Og 59 56 true (.call 97 [(.t 58)]),Ob 60 (.pick (.t 56) (.t 59) (.c (.bool false))),Ob 4 (.mov (.t 60))])
 (.ret)))
def r96 : List Res := [.t 4]
def a96 : AFn := ⟨2, c96, r96,.v⟩
def c97 : ACode := .seq (.region [Ob 2 (.mov (.c (.bool false)))])
 (.seq (.seq (.region [Ob 3 (.mov (Ci 0))])
 (.block 0 (.loop (.seq (.seq (.region [Ob 4 (.mov (.t 3)),Ob 5 (.mov (.t 0)),Ob 6 (.len (.t 5)),Ob 7 (.bin .lss (.t 4) (.t 6))])
 (.cond (.t 7) (.skip)
 (.exit 0)))
 (.seq (.block 1 (.seq (.region [Ob 10 (.mov (.t 0)),Ob 11 (.mov (.t 3)),Ob 12 (.idx (.t 10) (.t 11) 1),Ob 13 (.load (.t 12) none),Ob 14 (.call 73 [(.t 13), (Ci 0), (Ci 99)]),Ob 15 (.not (.t 14)),Ob 16 (.mov (.t 15)),Og 17 16 false (.mov (.t 3)),Og 18 16 false (.bin .gtr (.t 17) (Ci 0)),Og 19 16 false (.mov (.t 18)),Og 20 19 true (.mov (.t 0)),Og 21 19 true (.mov (.t 3)),Og 22 19 true (.idx (.t 20) (.t 21) 1),Og 23 19 true (.load (.t 22) none),Og 24 19 true (.mov (.t 0)),Og 25 19 true (.mov (.t 3)),Og 26 19 true (.bin .sub (.t 25) (Ci 1)),Og 27 19 true (.idx (.t 24) (.t 26) 1),Og 28 19 true (.load (.t 27) none),Og 29 19 true (.bin .leq (.t 23) (.t 28)),Og 30 16 false (.pick (.t 19) (.t 29) (.c (.bool false))),Ob 31 (.pick (.t 16) (.c (.bool true)) (.t 30))])
 (.cond (.t 31) (.seq (.region [Ob 2 (.mov (.c (.bool false)))])
 (.ret))
 (.skip))))
 (.region [Ob 8 (.mov (.t 3)),Ob 9 (.bin .add (.t 8) (Ci 1)),Ob 3 (.mov (.t 9))]))))))
 (.seq (.region [Ob 2 (.mov (.c (.bool true)))])
 (.ret)))
def r97 : List Res := [.t 2]
def a97 : AFn := ⟨1, c97, r97,.v⟩
def c98 : ACode := .seq (.region [Ob 2 (.box (.t 0) 12),Ob 4 (.mov (Ci 0))])
 (.seq (.region [Ob 8 (.mov (.t 1)),Ob 5 (.mov (.t 8))])
 (.seq (.seq (.region [Ob 9 (.addr (.t 2) 10),Ob 10 (.load (.t 9) none),Ob 11 (.len (.t 10)),Ob 12 (.mov (Ci 0))])
 (.block 0 (.loop (.seq (.region [Ob 13 (.bin .lss (.t 12) (.t 11))])
 (.seq (.cond (.t 13) (.skip)
 (.exit 0))
 (.seq (.block 1 (.seq (.region [Ob 14 (.idx (.t 10) (.t 12) 5),Ob 15 (.load (.t 14) (some 5)),Ob 7 (.new (.agg [(.int .i64 0), (.int .i64 0), (.sl [] .tight), (.int .i64 0), (.int .i64 0)]) 5),On (.store (.t 7) (.t 15) 5)])
 (.seq (.region [Ob 16 (.addr (.t 7) 3),Ob 17 (.load (.t 16) none),Ob 18 (.mov (.t 1)),Ob 19 (.bin .leq (.t 17) (.t 18))])
 (.cond (.t 19) (.region [Ob 20 (.mov (.t 5)),Ob 21 (.addr (.t 7) 4),Ob 22 (.load (.t 21) none),Ob 23 (.mnx true (.t 20) (.t 22)),Ob 5 (.mov (.t 23))])
 (.skip)))))
 (.region [Ob 24 (.bin .add (.t 12) (Ci 1)),Ob 12 (.mov (.t 24))])))))))
 (.seq (.region [Ob 25 (.mov (.t 5)),Ob 4 (.mov (.t 25))])
 (.ret))))
def r98 : List Res := [.t 4]
def a98 : AFn := ⟨2, c98, r98,.v⟩
def c99 : ACode := .seq (.region [Ob 2 (.mov (.c (.bool false)))])
 (.seq (.region [Ob 6 (.call 86 []),Ob 3 (.new .nilf 1),On (.store (.t 3) (.t 6) 1)])
 (.seq (.region [Ob 8 (.mov (.t 0)),Ob 9 (.clo 127 [] [(.t 3)]),Ob 10 (.call 126 [(.t 8), (.t 9)]),Ob 7 (.mov (.t 10)),Ob 11 (.ext (.t 7) 0),Ob 12 (.ext (.t 7) 1),Ob 4 (.new (.agg [(.int .i64 0), (.int .i64 0)]) 2),On (.store (.t 4) (.t 11) 2),Ob 5 (.mov (.t 12))])
 (.seq (.region [Ob 13 (.mov (.t 5)),Ob 14 (.not (.t 13)),Ob 2 (.mov (.t 14))])
 (.ret))))
def r99 : List Res := [.t 2]
def a99 : AFn := ⟨1, c99, r99,.v⟩
def c100 : ACode := .seq (.region [Ob 3 (.box (.t 1) 1),Ob 4 (.mov (.c (.bool false)))])
 (.seq (.region [Ob 8 (.call 86 []),Ob 5 (.new .nilf 1),On (.store (.t 5) (.t 8) 1)])
 (.seq (.region [Ob 10 (.mov (.t 0)),Ob 11 (.clo 128 [] [(.t 5), (.t 3)]),Ob 12 (.call 124 [(.t 10), (.t 11)]),Ob 9 (.mov (.t 12)),Ob 13 (.ext (.t 9) 0),Ob 14 (.ext (.t 9) 1),Ob 6 (.new (.agg [(.int .i64 0), (.int .i64 0), (.int .i64 0), (.int .i64 0), (.int .i64 0), (.bool false), (.sl [] .tight)]) 7),On (.store (.t 6) (.t 13) 7),Ob 7 (.mov (.t 14))])
 (.seq (.region [Ob 15 (.mov (.t 7)),Ob 16 (.not (.t 15)),Ob 4 (.mov (.t 16))])
 (.ret))))
def r100 : List Res := [.t 4]
def a100 : AFn := ⟨2, c100, r100,.v⟩
def c101 : ACode := .seq (.region [Ob 2 (.mov (.c (.bool false)))])
 (.seq (.region [Ob 6 (.call 86 []),Ob 3 (.new .nilf 1),On (.store (.t 3) (.t 6) 1)])
 (.seq (.region [Ob 8 (.mov (.t 0)),Ob 9 (.clo 130 [] [(.t 3)]),Ob 10 (.call 105 [(.t 8), (.t 9)]),Ob 7 (.mov (.t 10)),Ob 11 (.ext (.t 7) 0),Ob 12 (.ext (.t 7) 1),Ob 4 (.new (.agg [(.int .i64 0), (.sl [] .tight), (.sl [] .tight)]) 3),On (.store (.t 4) (.t 11) 3),Ob 5 (.mov (.t 12))])
 (.seq (.region [Ob 13 (.mov (.t 5)),Ob 14 (.not (.t 13)),Ob 2 (.mov (.t 14))])
 (.ret))))
def r101 : List Res := [.t 2]
def a101 : AFn := ⟨1, c101, r101,.v⟩
def c102 : ACode := .seq (.region [Ob 2 (.mov (.c (.bool false)))])
 (.seq (.region [Ob 3 (.mov (.t 0)),Ob 4 (.call 82 [(.t 3), (.c (.fn 132 [] []))]),Ob 5 (.not (.t 4)),Ob 2 (.mov (.t 5))])
 (.ret))
def r102 : List Res := [.t 2]
def a102 : AFn := ⟨1, c102, r102,.v⟩
def c103 : ACode := .seq (.region [Ob 2 (.mov (.c (.bool false)))])
 (.seq (.region [Ob 3 (.mov (.t 0)),Ob 4 (.call 134 [(.t 3), (.c (.fn 135 [] []))]),Ob 5 (.not (.t 4)),Ob 2 (.mov (.t 5))])
 (.ret))
def r103 : List Res := [.t 2]
def a103 : AFn := ⟨1, c103, r103,.v⟩
def c104 : ACode := .seq (.region [Ob 4 (.mov (Ci 0)),Ob 5 (.mov (.c (.bool false)))])
 (.seq (.seq (.region [Ob 6 (.mov (Ci 0))])
 (.block 0 (.loop (.seq (.seq (.region [Ob 7 (.mov (.t 6)),Ob 8 (.mov (.t 0)),Ob 9 (.len (.t 8)),Ob 10 (.bin .lss (.t 7) (.t 9))])
 (.cond (.t 10) (.skip)
 (.exit 0)))
 (.seq (.block 1 (.seq (.region [Ob 13 (.mov (.t 0)),Ob 14 (.mov (.t 6)),Ob 15 (.idx (.t 13) (.t 14) 2),Ob 16 (.addr (.t 15) 0),Ob 17 (.load (.t 16) none),Ob 18 (.mov (.t 1)),Ob 19 (.bin .eql (.t 17) (.t 18))])
 (.cond (.t 19) (.seq (.region [Ob 20 (.mov (.t 0)),Ob 21 (.mov (.t 6)),Ob 22 (.idx (.t 20) (.t 21) 2),Ob 23 (.addr (.t 22) 1),Ob 24 (.load (.t 23) none),Ob 4 (.mov (.t 24)),Ob 5 (.mov (.c (.bool true)))])
 (.ret))
 (.skip))))
 (.region [Ob 11 (.mov (.t 6)),Ob 12 (.bin .add (.t 11) (Ci 1)),Ob 6 (.mov (.t 12))]))))))
 (.seq (.region [Ob 4 (.mov (Ci 0)),Ob 5 (.mov (.c (.bool false)))])
 (.ret)))
def r104 : List Res := [.t 4,.t 5]
def a104 : AFn := ⟨2, c104, r104,.v⟩
def c105 : ACode := .seq (.region [Ob 4 (.new (.agg [(.int .i64 0), (.sl [] .tight), (.sl [] .tight)]) 3),Ob 5 (.mov (.c (.bool false)))])
 (.seq (.seq (.region [Ob 9 (.mov (.t 0)),Ob 10 (.len (.t 9)),Ob 11 (.mov (Ci 0))])
 (.block 0 (.loop (.seq (.region [Ob 12 (.bin .lss (.t 11) (.t 10))])
 (.seq (.cond (.t 12) (.skip)
 (.exit 0))
 (.seq (.block 1 (.seq (.region [Ob 13 (.idx (.t 9) (.t 11) 3),Ob 14 (.load (.t 13) (some 3)),Ob 7 (.new (.agg [(.int .i64 0), (.sl [] .tight), (.sl [] .tight)]) 3),On (.store (.t 7) (.t 14) 3)])
 (.seq (.region [Ob 15 (.mov (.t 1)),Ob 16 (.load (.t 7) (some 3)),Ob 17 (.callv (.t 15) [(.t 16)])])
 (.cond (.t 17) (.seq (.region [Ob 18 (.load (.t 7) (some 3)),On (.store (.t 4) (.t 18) 3),Ob 5 (.mov (.c (.bool true)))])
 (.ret))
 (.skip)))))
 (.region [Ob 19 (.bin .add (.t 11) (Ci 1)),Ob 11 (.mov (.t 19))])))))))
 (.seq (.region [Ob 8 (.new (.agg [(.int .i64 0), (.sl [] .tight), (.sl [] .tight)]) 3)])
 (.seq (.region [Ob 20 (.load (.t 8) (some 3)),On (.store (.t 4) (.t 20) 3),Ob 5 (.mov (.c (.bool false)))])
 (.ret))))
def r105 : List Res := [.cell 4 (some 3),.t 5]
def a105 : AFn := ⟨2, c105, r105,.r⟩
def c106 : ACode := .seq (.region [Ob 2 (.box (.t 0) 3),Ob 3 (.mov (.c (.bool false)))])
 (.seq (.region [Ob 4 (.addr (.t 2) 0),Ob 5 (.load (.t 4) none),Ob 6 (.load (.t 1) none),Ob 7 (.bin .eql (.t 5) (.t 6)),Ob 3 (.mov (.t 7))])
 (.ret))
def r106 : List Res := [.t 3]
def a106 : AFn := ⟨2, c106, r106,.v⟩
def c107 : ACode := .seq (.region [Ob 6 (.mov (.c (.bool false)))])
 (.seq (.region [Ob 7 (.mov (.t 1)),Ob 8 (.mov (.t 0)),Ob 9 (.bin .leq (.t 7) (.t 8)),Ob 10 (.mov (.t 9)),Og 11 10 true (.mov (.t 0)),Og 12 10 true (.mov (.t 2)),Og 13 10 true (.bin .leq (.t 11) (.t 12)),Ob 14 (.pick (.t 10) (.t 13) (.c (.bool false))),Ob 6 (.mov (.t 14))])
 (.ret))
def r107 : List Res := [.t 6]
def a107 : AFn := ⟨3, c107, r107,.v⟩
def c108 : ACode := .seq (.region [Ob 2 (.mov (.c (.bool false)))])
 (.seq (.region [Ob 3 (.mov (.t 0)),Ob 4 (.call 107 [(.t 3), (Ci 0), (Ci 99)]),Ob 2 (.mov (.t 4))])
 (.ret))
def r108 : List Res := [.t 2]
def a108 : AFn := ⟨1, c108, r108,.v⟩
def c109 : ACode := .seq (.region [Ob 4 (.mov (.c (.bool false)))])
 (.seq (.region [Ob 5 (.mov (.t 1)),Ob 6 (.bin .eql (.t 5) (Ci (-1))),Ob 7 (.mov (.t 6)),Og 8 7 false (.mov (.t 0)),Og 9 7 false (.mov (.t 1)),Og 10 7 false (.bin .eql (.t 8) (.t 9)),Ob 11 (.pick (.t 7) (.c (.bool true)) (.t 10)),Ob 4 (.mov (.t 11))])
 (.ret))
def r109 : List Res := [.t 4]
def a109 : AFn := ⟨2, c109, r109,.v⟩
def c110 : ACode := .seq (.region [Ob 6 (.mov (.c (.sl [] .tight)))])
 (.seq (.region [Ob 7 (.mov (.c (.sl [] .tight)))])
 (.seq (.seq (.region [Ob 12 (.mov (.t 1)),Ob 13 (.len (.t 12)),Ob 14 (.mov (Ci 0))])
 (.block 0 (.loop (.seq (.region [Ob 15 (.bin .lss (.t 14) (.t 13))])
 (.seq (.cond (.t 15) (.skip)
 (.exit 0))
 (.seq (.block 1 (.seq (.region [Ob 16 (.idx (.t 12) (.t 14) 1),Ob 17 (.load (.t 16) none),Ob 9 (.mov (.t 17))])
 (.seq (.region [Ob 19 (.mov (.t 0)),Ob 20 (.mov (.t 9)),Ob 21 (.call 136 [(.t 19), (.t 20)]),Ob 18 (.mov (.t 21)),Ob 22 (.ext (.t 18) 0),Ob 23 (.ext (.t 18) 1),Ob 10 (.new (.agg [(.int .i64 0), (.int .i64 0)]) 2),On (.store (.t 10) (.t 22) 2),Ob 11 (.mov (.t 23))])
 (.seq (.region [Ob 24 (.mov (.t 2)),Ob 25 (.load (.t 10) (some 2)),Ob 26 (.call 137 [(.t 24), (.t 25)]),Ob 27 (.not (.t 26))])
 (.cond (.t 27) (.region [Ob 28 (.mov (.t 7)),Ob 29 (.mov (.t 9)),Ob 30 (.lit false 3 1 [(.t 29)]),Ob 31 (.app false (.t 28) (.t 30) 3 1 8),Ob 7 (.mov (.t 31))])
 (.skip))))))
 (.region [Ob 32 (.bin .add (.t 14) (Ci 1)),Ob 14 (.mov (.t 32))])))))))
 (.seq (.region [Ob 33 (.mov (.t 7)),Ob 6 (.mov (.t 33))])
 (.ret))))
def r110 : List Res := [.t 6]
def a110 : AFn := ⟨3, c110, r110,.v⟩
def c111 : ACode := .seq (.region [Ob 4 (.mov (.c (.bool false)))])
 (.seq (.region [Ob 5 (.mov (.t 0)),Ob 6 (.mov (.t 1)),Ob 7 (.call 138 [(.t 5), (.t 6)]),Ob 8 (.bin .geq (.t 7) (Ci 0)),Ob 4 (.mov (.t 8))])
 (.ret))
def r111 : List Res := [.t 4]
def a111 : AFn := ⟨2, c111, r111,.v⟩
def c112 : ACode := .seq (.region [Ob 1 (.box (.t 0) 12),Ob 2 (.mov (.c (.sl [] .tight)))])
 (.seq (.seq (.region [Ob 8 (.addr (.t 1) 0),Ob 9 (.addr (.t 8) 5),Ob 10 (.load (.t 9) none),Ob 11 (.not (.t 10))])
 (.cond (.t 11) (.seq (.region [Ob 12 (.build [(.int .i64 0), (.int .i64 0)] [(0, 1, (Ci 0)), (1, 1, (Ci 9999))]),Ob 13 (.lit true 60 2 [(.t 12)]),Ob 2 (.mov (.t 13))])
 (.ret))
 (.skip)))
 (.seq (.region [Ob 3 (.mov (.c (.fn 139 [] [])))])
 (.seq (.region [Ob 4 (.mov (.c (.sl [] .tight)))])
 (.seq (.seq (.region [Ob 14 (.addr (.t 1) 10),Ob 15 (.load (.t 14) none),Ob 16 (.call 141 [(.t 15)]),Ob 17 (.mov (.t 3)),Ob 18 (.call 140 [(.t 16), (.t 17)]),Ob 19 (.len (.t 18)),Ob 20 (.mov (Ci 0))])
 (.block 0 (.loop (.seq (.region [Ob 21 (.bin .lss (.t 20) (.t 19))])
 (.seq (.cond (.t 21) (.skip)
 (.exit 0))
 (.seq (.block 1 (.seq (.region [Ob 22 (.idx (.t 18) (.t 20) 5),Ob 23 (.load (.t 22) (some 5)),Ob 6 (.new (.agg [(.int .i64 0), (.int .i64 0), (.sl [] .tight), (.int .i64 0), (.int .i64 0)]) 5),On (.store (.t 6) (.t 23) 5)])
 (.seq (.region [Ob 24 (.mov (.t 4)),Ob 25 (.len (.t 24)),Ob 26 (.bin .sub (.t 25) (Ci 1)),Ob 7 (.mov (.t 26))])
 (.seq (.region [Ob 27 (.mov (.t 7)),Ob 28 (.bin .geq (.t 27) (Ci 0)),Ob 29 (.mov (.t 28)),Og 30 29 true (.addr (.t 6) 3),Og 31 29 true (.load (.t 30) none),Og 32 29 true (.mov (.t 4)),Og 33 29 true (.mov (.t 7)),Og 34 29 true (.idx (.t 32) (.t 33) 2),Og 35 29 true (.addr (.t 34) 1),Og 36 29 true (.load (.t 35) none),Og 37 29 true (.bin .add (.t 36) (Ci 1)),Og 38 29 true (.bin .leq (.t 31) (.t 37)),Ob 39 (.pick (.t 29) (.t 38) (.c (.bool false)))])
 (.cond (.t 39) (.region [Ob 40 (.mov (.t 4)),Ob 41 (.mov (.t 7)),Ob 42 (.mov (.t 4)),Ob 43 (.mov (.t 7)),Ob 44 (.idx (.t 42) (.t 43) 2),Ob 45 (.addr (.t 44) 1),Ob 46 (.load (.t 45) none),Ob 47 (.addr (.t 6) 4),Ob 48 (.load (.t 47) none),Ob 49 (.mnx true (.t 46) (.t 48)),Ob 50 (.idx (.t 40) (.t 41) 2),Ob 51 (.addr (.t 50) 1),On (.store (.t 51) (.t 49) 1)])
 (.region [Ob 52 (.mov (.t 4)),Ob 53 (.addr (.t 6) 3),Ob 54 (.load (.t 53) none),Ob 55 (.addr (.t 6) 4),Ob 56 (.load (.t 55) none),Ob 57 (.build [(.int .i64 0), (.int .i64 0)] [(0, 1, (.t 54)), (1, 1, (.t 56))]),Ob 58 (.lit true 60 2 [(.t 57)]),Ob 59 (.app true (.t 52) (.t 58) 60 2 16),Ob 4 (.mov (.t 59))]))))))
 (.region [Ob 60 (.bin .add (.t 20) (Ci 1)),Ob 20 (.mov (.t 60))])))))))
 (.seq (.region [Ob 61 (.mov (.t 4)),Ob 2 (.mov (.t 61))])
 (.ret))))))
def r112 : List Res := [.t 2]
def a112 : AFn := ⟨1, c112, r112,.v⟩
def c113 : ACode := .seq (.region [Ob 8 (.mov (.c (.bool true)))])
 (.seq (.region [Ob 9 (.mov (.c (.bool true)))])
 (.block 0 (.loop (.block 1 (.seq (.region [Ob 19 (.mov (.t 2)),Ob 20 (.mov (.t 1)),Ob 21 (.bin .sub (.t 19) (.t 20)),Ob 10 (.mov (.t 21))])
 (.seq (.seq (.region [Ob 22 (.mov (.t 10)),Ob 23 (.bin .leq (.t 22) (Ci 12))])
 (.cond (.t 23) (.seq (.region [Ob 24 (.mov (.t 0)),Ob 25 (.mov (.t 1)),Ob 26 (.mov (.t 2)),Ob 27 (.call 142 [(.t 24), (.t 25), (.t 26)])])
 (.ret))
 (.skip)))
 (.seq (.seq (.region [Ob 28 (.mov (.t 3)),Ob 29 (.bin .eql (.t 28) (Ci 0))])
 (.cond (.t 29) (.seq (.region [Ob 30 (.mov (.t 0)),Ob 31 (.mov (.t 1)),Ob 32 (.mov (.t 2)),Ob 33 (.call 143 [(.t 30), (.t 31), (.t 32)])])
 (.ret))
 (.skip)))
 (.seq (.seq (.region [Ob 34 (.mov (.t 8)),Ob 35 (.not (.t 34))])
 (.cond (.t 35) (.seq (.region [Ob 36 (.mov (.t 0)),Ob 37 (.mov (.t 1)),Ob 38 (.mov (.t 2)),Ob 39 (.call 144 [(.t 36), (.t 37), (.t 38)])])
 (.region [Ob 40 (.mov (.t 3)),Ob 41 (.bin .sub (.t 40) (Ci 1)),Ob 3 (.mov (.t 41))]))
 (.skip)))
 (.seq (.region [Ob 43 (.mov (.t 0)),Ob 44 (.mov (.t 1)),Ob 45 (.mov (.t 2)),Ob 46 (.call 145 [(.t 43), (.t 44), (.t 45)]),Ob 42 (.mov (.t 46)),Ob 47 (.ext (.t 42) 0),Ob 48 (.ext (.t 42) 1),Ob 11 (.mov (.t 47)),Ob 12 (.mov (.t 48))])
 (.seq (.seq (.region [Ob 49 (.mov (.t 12)),Ob 50 (.bin .eql (.t 49) (Ci 2))])
 (.cond (.t 50) (.seq (.region [Ob 51 (.mov (.t 0)),Ob 52 (.mov (.t 1)),Ob 53 (.mov (.t 2)),Ob 54 (.call 146 [(.t 51), (.t 52), (.t 53)])])
 (.seq (.region [Ob 55 (.mov (.t 2)),Ob 56 (.bin .sub (.t 55) (Ci 1)),Ob 57 (.mov (.t 11)),Ob 58 (.mov (.t 1)),Ob 59 (.bin .sub (.t 57) (.t 58)),Ob 60 (.bin .sub (.t 56) (.t 59)),Ob 11 (.mov (.t 60))])
 (.region [Ob 12 (.mov (Ci 1))])))
 (.skip)))
 (.seq (.seq (.region [Ob 61 (.mov (.t 8)),Ob 62 (.mov (.t 61)),Og 63 62 true (.mov (.t 9)),Ob 64 (.pick (.t 62) (.t 63) (.c (.bool false))),Ob 65 (.mov (.t 64)),Og 66 65 true (.mov (.t 12)),Og 67 65 true (.bin .eql (.t 66) (Ci 1)),Ob 68 (.pick (.t 65) (.t 67) (.c (.bool false)))])
 (.cond (.t 68) (.seq (.region [Ob 69 (.mov (.t 0)),Ob 70 (.mov (.t 1)),Ob 71 (.mov (.t 2)),Ob 72 (.call 147 [(.t 69), (.t 70), (.t 71)])])
 (.cond (.t 72) (.ret)
 (.skip)))
 (.skip)))
 (.seq (.seq (.region [Ob 73 (.mov (.t 1)),Ob 74 (.bin .gtr (.t 73) (Ci 0)),Ob 75 (.mov (.t 74)),Og 76 75 true (.mov (.t 0)),Og 77 75 true (.mov (.t 1)),Og 78 75 true (.bin .sub (.t 77) (Ci 1)),Og 79 75 true (.idx (.t 76) (.t 78) 1),Og 80 75 true (.load (.t 79) none),Og 81 75 true (.mov (.t 0)),Og 82 75 true (.mov (.t 11)),Og 83 75 true (.idx (.t 81) (.t 82) 1),Og 84 75 true (.load (.t 83) none),Og 85 75 true (.call 148 [(.t 80), (.t 84)]),Og 86 75 true (.not (.t 85)),Ob 87 (.pick (.t 75) (.t 86) (.c (.bool false)))])
 (.cond (.t 87) (.seq (.region [Ob 88 (.mov (.t 0)),Ob 89 (.mov (.t 1)),Ob 90 (.mov (.t 2)),Ob 91 (.mov (.t 11)),Ob 92 (.call 149 [(.t 88), (.t 89), (.t 90), (.t 91)]),Ob 13 (.mov (.t 92))])
 (.seq (.region [Ob 93 (.mov (.t 13)),Ob 1 (.mov (.t 93))])
 (.exit 1)))
 (.skip)))
 (.seq (.region [Ob 95 (.mov (.t 0)),Ob 96 (.mov (.t 1)),Ob 97 (.mov (.t 2)),Ob 98 (.mov (.t 11)),Ob 99 (.call 150 [(.t 95), (.t 96), (.t 97), (.t 98)]),Ob 94 (.mov (.t 99)),Ob 100 (.ext (.t 94) 0),Ob 101 (.ext (.t 94) 1),Ob 14 (.mov (.t 100)),Ob 15 (.mov (.t 101))])
 (.seq (.region [Ob 102 (.mov (.t 15)),Ob 9 (.mov (.t 102))])
 (.seq (.region [Ob 103 (.mov (.t 14)),Ob 104 (.mov (.t 1)),Ob 105 (.bin .sub (.t 103) (.t 104)),Ob 106 (.mov (.t 2)),Ob 107 (.mov (.t 14)),Ob 108 (.bin .sub (.t 106) (.t 107)),Ob 16 (.mov (.t 105)),Ob 17 (.mov (.t 108))])
 (.seq (.region [Ob 109 (.mov (.t 10)),Ob 110 (.bin .quo (.t 109) (Ci 8)),Ob 18 (.mov (.t 110))])
 (.seq (.region [Ob 111 (.mov (.t 16)),Ob 112 (.mov (.t 17)),Ob 113 (.bin .lss (.t 111) (.t 112))])
 (.cond (.t 113) (.seq (.region [Ob 114 (.mov (.t 16)),Ob 115 (.mov (.t 18)),Ob 116 (.bin .geq (.t 114) (.t 115)),Ob 8 (.mov (.t 116))])
 (.seq (.region [Ob 117 (.mov (.t 0)),Ob 118 (.mov (.t 1)),Ob 119 (.mov (.t 14)),Ob 120 (.mov (.t 3)),Ob 121 (.call 113 [(.t 117), (.t 118), (.t 119), (.t 120)])])
 (.region [Ob 122 (.mov (.t 14)),Ob 123 (.bin .add (.t 122) (Ci 1)),Ob 1 (.mov (.t 123))])))
 (.seq (.region [Ob 124 (.mov (.t 17)),Ob 125 (.mov (.t 18)),Ob 126 (.bin .geq (.t 124) (.t 125)),Ob 8 (.mov (.t 126))])
 (.seq (.region [Ob 127 (.mov (.t 0)),Ob 128 (.mov (.t 14)),Ob 129 (.bin .add (.t 128) (Ci 1)),Ob 130 (.mov (.t 2)),Ob 131 (.mov (.t 3)),Ob 132 (.call 113 [(.t 127), (.t 129), (.t 130), (.t 131)])])
 (.region [Ob 133 (.mov (.t 14)),Ob 2 (.mov (.t 133))])))))))))))))))))))))
def r113 : List Res := []
def a113 : AFn := ⟨4, c113, r113,.r⟩
def c114 : ACode := .seq (.region [Ob 2 (.mov (Ci 0))])
 (.seq (.cond (.c (.bool false)) (.seq (.region [Ob 3 (.mov (.t 0)),Ob 4 (.conv .u32 (.t 3)),Ob 5 (.call 151 [(.t 4)]),Ob 2 (.mov (.t 5))])
 (.ret))
 (.skip))
 (.seq (.region [Ob 6 (.mov (.t 0)),Ob 7 (.call 152 [(.t 6)]),Ob 2 (.mov (.t 7))])
 (.ret)))
def r114 : List Res := [.t 2]
def a114 : AFn := ⟨1, c114, r114,.v⟩
def c115 : ACode := .seq (.region [Ob 2 (.mov (.c (.bool false)))])
 (.seq (.region [Ob 3 (.mov (.t 0)),Ob 4 (.mov (.t 0)),Ob 5 (.bin .neq (.t 3) (.t 4)),Ob 2 (.mov (.t 5))])
 (.ret))
def r115 : List Res := [.t 2]
def a115 : AFn := ⟨1, c115, r115,.v⟩
def c116 : ACode := .seq (.region [Ob 4 (.mov (Ci 0)),Ob 5 (.mov (.c (.bool false)))])
 (.seq (.seq (.region [Ob 9 (.mov (.t 0)),Ob 10 (.len (.t 9)),Ob 11 (.mov (Ci 0))])
 (.block 0 (.loop (.seq (.region [Ob 12 (.bin .lss (.t 11) (.t 10))])
 (.seq (.cond (.t 12) (.skip)
 (.exit 0))
 (.seq (.block 1 (.seq (.region [Ob 13 (.idx (.t 9) (.t 11) 1),Ob 14 (.load (.t 13) none),Ob 7 (.mov (.t 14))])
 (.seq (.region [Ob 15 (.mov (.t 1)),Ob 16 (.mov (.t 7)),Ob 17 (.callv (.t 15) [(.t 16)])])
 (.cond (.t 17) (.seq (.region [Ob 18 (.mov (.t 7)),Ob 4 (.mov (.t 18)),Ob 5 (.mov (.c (.bool true)))])
 (.ret))
 (.skip)))))
 (.region [Ob 19 (.bin .add (.t 11) (Ci 1)),Ob 11 (.mov (.t 19))])))))))
 (.seq (.region [Ob 8 (.mov (Ci 0))])
 (.seq (.region [Ob 20 (.mov (.t 8)),Ob 4 (.mov (.t 20)),Ob 5 (.mov (.c (.bool false)))])
 (.ret))))
def r116 : List Res := [.t 4,.t 5]
def a116 : AFn := ⟨2, c116, r116,.r⟩
def c117 : ACode := .seq (.region [Ob 3 (.mov (.c (.bool false)))])
 (.seq (.region [Ob 4 (.addr (.t 1) 2),Ob 5 (.load (.t 4) none),Ob 6 (.mov (.t 0)),Ob 7 (.call 111 [(.t 5), (.t 6)]),Ob 8 (.not (.t 7)),Ob 3 (.mov (.t 8))])
 (.ret))
def r117 : List Res := [.t 3]
def a117 : AFn := ⟨2, c117, r117,.v⟩
def c118 : ACode := .seq (.region [Ob 2 (.box (.t 0) 2),Ob 3 (.mov (.c (.bool false)))])
 (.seq (.region [Ob 4 (.load (.t 1) none),Ob 5 (.addr (.t 2) 0),Ob 6 (.load (.t 5) none),Ob 7 (.addr (.t 2) 1),Ob 8 (.load (.t 7) none),Ob 9 (.call 107 [(.t 4), (.t 6), (.t 8)]),Ob 3 (.mov (.t 9))])
 (.ret))
def r118 : List Res := [.t 3]
def a118 : AFn := ⟨2, c118, r118,.v⟩
def c119 : ACode := .seq (.region [Ob 4 (.mov (.c (.bool false)))])
 (.seq (.seq (.region [Ob 6 (.mov (.t 0)),Ob 7 (.len (.t 6)),Ob 8 (.mov (.t 1)),Ob 9 (.len (.t 8)),Ob 10 (.bin .neq (.t 7) (.t 9))])
 (.cond (.t 10) (.seq (.region [Ob 4 (.mov (.c (.bool false)))])
 (.ret))
 (.skip)))
 (.seq (.seq (.region [Ob 11 (.mov (.t 0)),Ob 12 (.len (.t 11)),Ob 13 (.mov (Ci 0))])
 (.block 0 (.loop (.seq (.region [Ob 14 (.bin .lss (.t 13) (.t 12))])
 (.seq (.cond (.t 14) (.skip)
 (.exit 0))
 (.seq (.block 1 (.seq (.region [Ob 15 (.mov (.t 13)),Ob 5 (.mov (.t 15))])
 (.seq (.region [Ob 16 (.mov (.t 0)),Ob 17 (.mov (.t 5)),Ob 18 (.idx (.t 16) (.t 17) 1),Ob 19 (.load (.t 18) none),Ob 20 (.mov (.t 1)),Ob 21 (.mov (.t 5)),Ob 22 (.idx (.t 20) (.t 21) 1),Ob 23 (.load (.t 22) none),Ob 24 (.bin .neq (.t 19) (.t 23))])
 (.cond (.t 24) (.seq (.region [Ob 4 (.mov (.c (.bool false)))])
 (.ret))
 (.skip)))))
 (.region [Ob 25 (.bin .add (.t 13) (Ci 1)),Ob 13 (.mov (.t 25))])))))))
 (.seq (.region [Ob 4 (.mov (.c (.bool true)))])
 (.ret))))
def r119 : List Res := [.t 4]
def a119 : AFn := ⟨2, c119, r119,.v⟩
def c120 : ACode := .seq (.region [Ob 4 (.mov (Ci 0))])
 (.seq (.seq (.region [Ob 6 (.mov (.t 0)),Ob 7 (.len (.t 6)),Ob 8 (.mov (Ci 0))])
 (.block 0 (.loop (.seq (.region [Ob 9 (.bin .lss (.t 8) (.t 7))])
 (.seq (.cond (.t 9) (.skip)
 (.exit 0))
 (.seq (.block 1 (.seq (.region [Ob 10 (.mov (.t 8)),Ob 5 (.mov (.t 10))])
 (.seq (.region [Ob 11 (.mov (.t 1)),Ob 12 (.mov (.t 0)),Ob 13 (.mov (.t 5)),Ob 14 (.idx (.t 12) (.t 13) 5),Ob 15 (.load (.t 14) (some 5)),Ob 16 (.callv (.t 11) [(.t 15)])])
 (.cond (.t 16) (.seq (.region [Ob 17 (.mov (.t 5)),Ob 4 (.mov (.t 17))])
 (.ret))
 (.skip)))))
 (.region [Ob 18 (.bin .add (.t 8) (Ci 1)),Ob 8 (.mov (.t 18))])))))))
 (.seq (.region [Ob 4 (.mov (Ci (-1)))])
 (.ret)))
def r120 : List Res := [.t 4]
def a120 : AFn := ⟨2, c120, r120,.v⟩
def c121 : ACode := Srt.pdqsortF 5 (some 5) 155 156 154 153 158 160 159 121 157
def r121 : List Res := []
def a121 : AFn := ⟨5, c121, r121,.r⟩
def c122 : ACode := .seq (.region [Ob 3 (.mov (.c (.bool false)))])
 (.seq (.region [Ob 5 (.load (.t 1) none),Ob 6 (.mov (.t 0)),Ob 7 (.mget .i (.bool false) false (.t 5) (.t 6)),Ob 4 (.mov (.t 7))])
 (.seq (.region [Ob 8 (.load (.t 1) none),Ob 9 (.mov (.t 0)),On (.mput .i (.t 8) (.t 9) (.c (.bool true)))])
 (.seq (.region [Ob 10 (.mov (.t 4)),Ob 11 (.not (.t 10)),Ob 3 (.mov (.t 11))])
 (.ret))))
def r122 : List Res := [.t 3]
def a122 : AFn := ⟨2, c122, r122,.r⟩
def c123 : ACode := .seq (.region [Ob 4 (.mov (.c (.bool false)))])
 (.seq (.seq (.region [Ob 5 (.mov (Ci 0))])
 (.block 0 (.loop (.seq (.seq (.region [Ob 6 (.mov (.t 5)),Ob 7 (.mov (.t 0)),Ob 8 (.len (.t 7)),Ob 9 (.bin .lss (.t 6) (.t 8)),Ob 10 (.mov (.t 9)),Og 11 10 true (.mov (.t 5)),Og 12 10 true (.mov (.t 1)),Og 13 10 true (.len (.t 12)),Og 14 10 true (.bin .lss (.t 11) (.t 13)),Ob 15 (.pick (.t 10) (.t 14) (.c (.bool false)))])
 (.cond (.t 15) (.skip)
 (.exit 0)))
 (.seq (.block 1 (.seq (.region [Ob 18 (.mov (.t 0)),Ob 19 (.mov (.t 5)),Ob 20 (.idx (.t 18) (.t 19) 1),Ob 21 (.load (.t 20) none),Ob 22 (.mov (.t 1)),Ob 23 (.mov (.t 5)),Ob 24 (.idx (.t 22) (.t 23) 1),Ob 25 (.load (.t 24) none),Ob 26 (.bin .neq (.t 21) (.t 25))])
 (.cond (.t 26) (.seq (.region [Ob 4 (.mov (.c (.bool false)))])
 (.ret))
 (.skip))))
 (.region [Ob 16 (.mov (.t 5)),Ob 17 (.bin .add (.t 16) (Ci 1)),Ob 5 (.mov (.t 17))]))))))
 (.seq (.region [Ob 27 (.mov (.t 0)),Ob 28 (.len (.t 27)),Ob 29 (.mov (.t 1)),Ob 30 (.len (.t 29)),Ob 31 (.bin .eql (.t 28) (.t 30)),Ob 4 (.mov (.t 31))])
 (.ret)))
def r123 : List Res := [.t 4]
def a123 : AFn := ⟨2, c123, r123,.v⟩
def c124 : ACode := .seq (.region [Ob 4 (.new (.agg [(.int .i64 0), (.int .i64 0), (.int .i64 0), (.int .i64 0), (.int .i64 0), (.bool false), (.sl [] .tight)]) 7),Ob 5 (.mov (.c (.bool false)))])
 (.seq (.seq (.region [Ob 9 (.mov (.t 0)),Ob 10 (.len (.t 9)),Ob 11 (.mov (Ci 0))])
 (.block 0 (.loop (.seq (.region [Ob 12 (.bin .lss (.t 11) (.t 10))])
 (.seq (.cond (.t 12) (.skip)
 (.exit 0))
 (.seq (.block 1 (.seq (.region [Ob 13 (.idx (.t 9) (.t 11) 7),Ob 14 (.load (.t 13) (some 7)),Ob 7 (.new (.agg [(.int .i64 0), (.int .i64 0), (.int .i64 0), (.int .i64 0), (.int .i64 0), (.bool false), (.sl [] .tight)]) 7),On (.store (.t 7) (.t 14) 7)])
 (.seq (.region [Ob 15 (.mov (.t 1)),Ob 16 (.load (.t 7) (some 7)),Ob 17 (.callv (.t 15) [(.t 16)])])
 (.cond (.t 17) (.seq (.region [Ob 18 (.load (.t 7) (some 7)),On (.store (.t 4) (.t 18) 7),Ob 5 (.mov (.c (.bool true)))])
 (.ret))
 (.skip)))))
 (.region [Ob 19 (.bin .add (.t 11) (Ci 1)),Ob 11 (.mov (.t 19))])))))))
 (.seq (.region [Ob 8 (.new (.agg [(.int .i64 0), (.int .i64 0), (.int .i64 0), (.int .i64 0), (.int .i64 0), (.bool false), (.sl [] .tight)]) 7)])
 (.seq (.region [Ob 20 (.load (.t 8) (some 7)),On (.store (.t 4) (.t 20) 7),Ob 5 (.mov (.c (.bool false)))])
 (.ret))))
def r124 : List Res := [.cell 4 (some 7),.t 5]
def a124 : AFn := ⟨2, c124, r124,.r⟩
def c125 : ACode := .seq (.region [Ob 2 (.box (.t 0) 7),Ob 3 (.mov (.c (.bool false)))])
 (.seq (.region [Ob 4 (.addr (.t 2) 0),Ob 5 (.load (.t 4) none),Ob 6 (.load (.t 1) none),Ob 7 (.bin .eql (.t 5) (.t 6)),Ob 3 (.mov (.t 7))])
 (.ret))
def r125 : List Res := [.t 3]
def a125 : AFn := ⟨2, c125, r125,.v⟩
def c126 : ACode := .seq (.region [Ob 4 (.new (.agg [(.int .i64 0), (.int .i64 0)]) 2),Ob 5 (.mov (.c (.bool false)))])
 (.seq (.seq (.region [Ob 9 (.mov (.t 0)),Ob 10 (.len (.t 9)),Ob 11 (.mov (Ci 0))])
 (.block 0 (.loop (.seq (.region [Ob 12 (.bin .lss (.t 11) (.t 10))])
 (.seq (.cond (.t 12) (.skip)
 (.exit 0))
 (.seq (.block 1 (.seq (.region [Ob 13 (.idx (.t 9) (.t 11) 2),Ob 14 (.load (.t 13) (some 2)),Ob 7 (.new (.agg [(.int .i64 0), (.int .i64 0)]) 2),On (.store (.t 7) (.t 14) 2)])
 (.seq (.region [Ob 15 (.mov (.t 1)),Ob 16 (.load (.t 7) (some 2)),Ob 17 (.callv (.t 15) [(.t 16)])])
 (.cond (.t 17) (.seq (.region [Ob 18 (.load (.t 7) (some 2)),On (.store (.t 4) (.t 18) 2),Ob 5 (.mov (.c (.bool true)))])
 (.ret))
 (.skip)))))
 (.region [Ob 19 (.bin .add (.t 11) (Ci 1)),Ob 11 (.mov (.t 19))])))))))
 (.seq (.region [Ob 8 (.new (.agg [(.int .i64 0), (.int .i64 0)]) 2)])
 (.seq (.region [Ob 20 (.load (.t 8) (some 2)),On (.store (.t 4) (.t 20) 2),Ob 5 (.mov (.c (.bool false)))])
 (.ret))))
def r126 : List Res := [.cell 4 (some 2),.t 5]
def a126 : AFn := ⟨2, c126, r126,.r⟩
def c127 : ACode := .seq (.region [Ob 2 (.box (.t 0) 2),Ob 3 (.mov (.c (.bool false)))])
 (.seq (.region [Ob 4 (.load (.t 1) none),Ob 5 (.addr (.t 2) 0),Ob 6 (.load (.t 5) none),Ob 7 (.callv (.t 4) [(.t 6)]),Ob 8 (.not (.t 7)),Ob 9 (.mov (.t 8)),Og 10 9 false (.addr (.t 2) 0),Og 11 9 false (.load (.t 10) none),Og 12 9 false (.call 108 [(.t 11)]),Og 13 9 false (.not (.t 12)),Ob 14 (.pick (.t 9) (.c (.bool true)) (.t 13)),Ob 15 (.mov (.t 14)),Og 16 15 false (.addr (.t 2) 1),Og 17 15 false (.load (.t 16) none),Og 18 15 false (.call 107 [(.t 17), (Ci 0), (Ci 999)]),Og 19 15 false (.not (.t 18)),Ob 20 (.pick (.t 15) (.c (.bool true)) (.t 19)),Ob 3 (.mov (.t 20))])
 (.ret))
def r127 : List Res := [.t 3]
def a127 : AFn := ⟨2, c127, r127,.r⟩
def c128 : ACode := .seq (.region [Ob 3 (.box (.t 0) 7),Ob 4 (.mov (.c (.bool false)))])
 (.seq (.region [Ob 5 (.load (.t 1) none),Ob 6 (.addr (.t 3) 0),Ob 7 (.load (.t 6) none),Ob 8 (.callv (.t 5) [(.t 7)]),Ob 9 (.not (.t 8)),Ob 10 (.mov (.t 9)),Og 11 10 false (.load (.t 3) (some 7)),Og 12 10 false (.load (.t 2) none),Og 13 10 false (.call 129 [(.t 11), (.t 12)]),Og 14 10 false (.not (.t 13)),Ob 15 (.pick (.t 10) (.c (.bool true)) (.t 14)),Ob 4 (.mov (.t 15))])
 (.ret))
def r128 : List Res := [.t 4]
def a128 : AFn := ⟨3, c128, r128,.r⟩
def c129 : ACode := .seq (.region [Ob 2 (.box (.t 0) 7),Ob 3 (.box (.t 1) 1),Ob 4 (.mov (.c (.bool false)))])
 (.seq (.region [Ob 6 (.clo 161 [] [(.t 3)]),Ob 5 (.mov (.t 6))])
 (.seq (.region [Ob 7 (.addr (.t 2) 0),Ob 8 (.load (.t 7) none),Ob 9 (.call 108 [(.t 8)]),Ob 10 (.mov (.t 9)),Og 11 10 true (.addr (.t 2) 1),Og 12 10 true (.load (.t 11) none),Og 13 10 true (.call 108 [(.t 12)]),Ob 14 (.pick (.t 10) (.t 13) (.c (.bool false))),Ob 15 (.mov (.t 14)),Og 16 15 true (.addr (.t 2) 2),Og 17 15 true (.load (.t 16) none),Og 18 15 true (.call 107 [(.t 17), (Ci 0), (Ci 9)]),Ob 19 (.pick (.t 15) (.t 18) (.c (.bool false))),Ob 20 (.mov (.t 19)),Og 21 20 true (.addr (.t 2) 3),Og 22 20 true (.load (.t 21) none),Og 23 20 true (.call 107 [(.t 22), (Ci 0), (Ci 9)]),Ob 24 (.pick (.t 20) (.t 23) (.c (.bool false))),Ob 25 (.mov (.t 24)),Og 26 25 true (.addr (.t 2) 4),Og 27 25 true (.load (.t 26) none),Og 28 25 true (.call 107 [(.t 27), (Ci 1), (Ci 400)]),Ob 29 (.pick (.t 25) (.t 28) (.c (.bool false))),Ob 30 (.mov (.t 29)),Og 31 30 true (.addr (.t 2) 6),Og 32 30 true (.load (.t 31) none),Og 33 30 true (.len (.t 32)),Og 34 30 true (.bin .gtr (.t 33) (Ci 0)),Ob 35 (.pick (.t 30) (.t 34) (.c (.bool false))),Ob 36 (.mov (.t 35)),Og 37 36 true (.addr (.t 2) 6),Og 38 36 true (.load (.t 37) none),Og 39 36 true (.call 162 [(.t 38)]),Ob 40 (.pick (.t 36) (.t 39) (.c (.bool false))),Ob 41 (.mov (.t 40)),Og 42 41 true (.addr (.t 2) 6),Og 43 41 true (.load (.t 42) none),Og 44 41 true (.mov (.t 5)),Og 45 41 true (.call 134 [(.t 43), (.t 44)]),Og 46 41 true (.not (.t 45)),Ob 47 (.pick (.t 41) (.t 46) (.c (.bool false))),Ob 4 (.mov (.t 47))])
 (.ret)))
def r129 : List Res := [.t 4]
def a129 : AFn := ⟨2, c129, r129,.v⟩
def c130 : ACode := .seq (.region [Ob 2 (.box (.t 0) 3),Ob 3 (.mov (.c (.bool false)))])
 (.seq (.region [Ob 4 (.load (.t 1) none),Ob 5 (.addr (.t 2) 0),Ob 6 (.load (.t 5) none),Ob 7 (.callv (.t 4) [(.t 6)]),Ob 8 (.not (.t 7)),Ob 9 (.mov (.t 8)),Og 10 9 false (.load (.t 2) (some 3)),Og 11 9 false (.call 131 [(.t 10)]),Og 12 9 false (.not (.t 11)),Ob 13 (.pick (.t 9) (.c (.bool true)) (.t 12)),Ob 3 (.mov (.t 13))])
 (.ret))
def r130 : List Res := [.t 3]
def a130 : AFn := ⟨2, c130, r130,.r⟩
def c131 : ACode := .seq (.region [Ob 1 (.box (.t 0) 3),Ob 2 (.mov (.c (.bool false)))])
 (.seq (.region [Ob 3 (.addr (.t 1) 0),Ob 4 (.load (.t 3) none),Ob 5 (.call 108 [(.t 4)]),Ob 6 (.mov (.t 5)),Og 7 6 true (.addr (.t 1) 1),Og 8 6 true (.load (.t 7) none),Og 9 6 true (.len (.t 8)),Og 10 6 true (.call 107 [(.t 9), (Ci 1), (Ci 6)]),Ob 11 (.pick (.t 6) (.t 10) (.c (.bool false))),Ob 12 (.mov (.t 11)),Og 13 12 true (.addr (.t 1) 1),Og 14 12 true (.load (.t 13) none),Og 15 12 true (.call 162 [(.t 14)]),Ob 16 (.pick (.t 12) (.t 15) (.c (.bool false))),Ob 17 (.mov (.t 16)),Og 18 17 true (.addr (.t 1) 2),Og 19 17 true (.load (.t 18) none),Og 20 17 true (.len (.t 19)),Og 21 17 true (.bin .leq (.t 20) (Ci 20)),Ob 22 (.pick (.t 17) (.t 21) (.c (.bool false))),Ob 23 (.mov (.t 22)),Og 24 23 true (.addr (.t 1) 2),Og 25 23 true (.load (.t 24) none),Og 26 23 true (.call 99 [(.t 25)]),Ob 27 (.pick (.t 23) (.t 26) (.c (.bool false))),Ob 2 (.mov (.t 27))])
 (.ret))
def r131 : List Res := [.t 2]
def a131 : AFn := ⟨1, c131, r131,.v⟩
def c132 : ACode := .seq (.region [Ob 1 (.box (.t 0) 5),Ob 2 (.mov (.c (.bool false)))])
 (.seq (.region [Ob 3 (.load (.t 1) (some 5)),Ob 4 (.call 133 [(.t 3)]),Ob 5 (.not (.t 4)),Ob 2 (.mov (.t 5))])
 (.ret))
def r132 : List Res := [.t 2]
def a132 : AFn := ⟨1, c132, r132,.v⟩
def c133 : ACode := .seq (.region [Ob 1 (.box (.t 0) 5),Ob 2 (.mov (.c (.bool false)))])
 (.seq (.region [Ob 3 (.addr (.t 1) 0),Ob 4 (.load (.t 3) none),Ob 5 (.call 108 [(.t 4)]),Ob 6 (.mov (.t 5)),Og 7 6 true (.addr (.t 1) 1),Og 8 6 true (.load (.t 7) none),Og 9 6 true (.call 108 [(.t 8)]),Ob 10 (.pick (.t 6) (.t 9) (.c (.bool false))),Ob 11 (.mov (.t 10)),Og 12 11 true (.addr (.t 1) 2),Og 13 11 true (.load (.t 12) none),Og 14 11 true (.len (.t 13)),Og 15 11 true (.bin .leq (.t 14) (Ci 12)),Ob 16 (.pick (.t 11) (.t 15) (.c (.bool false))),Ob 17 (.mov (.t 16)),Og 18 17 true (.addr (.t 1) 2),Og 19 17 true (.load (.t 18) none),Og 20 17 true (.call 162 [(.t 19)]),Ob 21 (.pick (.t 17) (.t 20) (.c (.bool false))),Ob 22 (.mov (.t 21)),Og 23 22 true (.addr (.t 1) 3),Og 24 22 true (.load (.t 23) none),Og 25 22 true (.call 68 [(.t 24)]),Ob 26 (.pick (.t 22) (.t 25) (.c (.bool false))),Ob 27 (.mov (.t 26)),Og 28 27 true (.addr (.t 1) 4),Og 29 27 true (.load (.t 28) none),Og 30 27 true (.call 68 [(.t 29)]),Ob 31 (.pick (.t 27) (.t 30) (.c (.bool false))),Ob 32 (.mov (.t 31)),Og 33 32 true (.addr (.t 1) 3),Og 34 32 true (.load (.t 33) none),Og 35 32 true (.addr (.t 1) 4),Og 36 32 true (.load (.t 35) none),Og 37 32 true (.bin .leq (.t 34) (.t 36)),Ob 38 (.pick (.t 32) (.t 37) (.c (.bool false))),Ob 2 (.mov (.t 38))])
 (.ret))
def r133 : List Res := [.t 2]
def a133 : AFn := ⟨1, c133, r133,.v⟩
def c134 : ACode := .seq (.region [Ob 4 (.mov (.c (.bool false)))])
 (.seq (.region [Ob 5 (.mov (.t 0)),Ob 6 (.mov (.t 1)),Ob 7 (.call 163 [(.t 5), (.t 6)]),Ob 8 (.bin .geq (.t 7) (Ci 0)),Ob 4 (.mov (.t 8))])
 (.ret))
def r134 : List Res := [.t 4]
def a134 : AFn := ⟨2, c134, r134,.v⟩
def c135 : ACode := .seq (.region [Ob 2 (.mov (.c (.bool false)))])
 (.seq (.region [Ob 3 (.mov (.t 0)),Ob 4 (.call 108 [(.t 3)]),Ob 5 (.not (.t 4)),Ob 2 (.mov (.t 5))])
 (.ret))
def r135 : List Res := [.t 2]
def a135 : AFn := ⟨1, c135, r135,.v⟩
def c136 : ACode := .seq (.region [Ob 3 (.box (.t 1) 1),Ob 4 (.new (.agg [(.int .i64 0), (.int .i64 0)]) 2),Ob 5 (.mov (.c (.bool false)))])
 (.seq (.region [Ob 6 (.mov (.t 0)),Ob 7 (.clo 164 [] [(.t 3)]),Ob 8 (.call 126 [(.t 6), (.t 7)]),Ob 9 (.ext (.t 8) 0),Ob 10 (.ext (.t 8) 1),On (.store (.t 4) (.t 9) 2),Ob 5 (.mov (.t 10))])
 (.ret))
def r136 : List Res := [.cell 4 (some 2),.t 5]
def a136 : AFn := ⟨2, c136, r136,.v⟩
def c137 : ACode := .seq (.region [Ob 3 (.box (.t 1) 2),Ob 4 (.mov (.c (.bool false)))])
 (.seq (.region [Ob 5 (.mov (.t 0)),Ob 6 (.load (.t 3) (some 2)),Ob 7 (.call 165 [(.t 5), (.t 6)]),Ob 8 (.bin .geq (.t 7) (Ci 0)),Ob 4 (.mov (.t 8))])
 (.ret))
def r137 : List Res := [.t 4]
def a137 : AFn := ⟨2, c137, r137,.v⟩
def c138 : ACode := .seq (.region [Ob 4 (.mov (Ci 0))])
 (.seq (.seq (.region [Ob 6 (.mov (.t 0)),Ob 7 (.len (.t 6)),Ob 8 (.mov (Ci 0))])
 (.block 0 (.loop (.seq (.region [Ob 9 (.bin .lss (.t 8) (.t 7))])
 (.seq (.cond (.t 9) (.skip)
 (.exit 0))
 (.seq (.block 1 (.seq (.region [Ob 10 (.mov (.t 8)),Ob 5 (.mov (.t 10))])
 (.seq (.region [Ob 11 (.mov (.t 1)),Ob 12 (.mov (.t 0)),Ob 13 (.mov (.t 5)),Ob 14 (.idx (.t 12) (.t 13) 1),Ob 15 (.load (.t 14) none),Ob 16 (.bin .eql (.t 11) (.t 15))])
 (.cond (.t 16) (.seq (.region [Ob 17 (.mov (.t 5)),Ob 4 (.mov (.t 17))])
 (.ret))
 (.skip)))))
 (.region [Ob 18 (.bin .add (.t 8) (Ci 1)),Ob 8 (.mov (.t 18))])))))))
 (.seq (.region [Ob 4 (.mov (Ci (-1)))])
 (.ret)))
def r138 : List Res := [.t 4]
def a138 : AFn := ⟨2, c138, r138,.v⟩
def c139 : ACode := .seq (.region [Ob 2 (.box (.t 0) 5),Ob 3 (.box (.t 1) 5),Ob 4 (.mov (Ci 0))])
 (.seq (.region [Ob 5 (.addr (.t 2) 3),Ob 6 (.load (.t 5) none),Ob 7 (.addr (.t 3) 3),Ob 8 (.load (.t 7) none),Ob 9 (.call 76 [(.t 6), (.t 8)]),Ob 4 (.mov (.t 9))])
 (.ret))
def r139 : List Res := [.t 4]
def a139 : AFn := ⟨2, c139, r139,.v⟩
def c140 : ACode := .seq (.region [Ob 4 (.mov (.c (.sl [] .tight)))])
 (.seq (.region [Ob 6 (.mov (.t 0)),Ob 7 (.call 166 [(.t 6)]),Ob 5 (.mov (.t 7))])
 (.seq (.region [Ob 8 (.mov (.t 5)),Ob 9 (.mov (.t 1)),Ob 10 (.call 83 [(.t 8), (.t 9)])])
 (.seq (.region [Ob 11 (.mov (.t 5)),Ob 4 (.mov (.t 11))])
 (.ret))))
def r140 : List Res := [.t 4]
def a140 : AFn := ⟨2, c140, r140,.v⟩
def c141 : ACode := .seq (.region [Ob 1 (.box (.t 0) 1),Ob 2 (.mov (.c .nilf))])
 (.seq (.region [Ob 3 (.clo 167 [] [(.t 1)]),Ob 2 (.mov (.t 3))])
 (.ret))
def r141 : List Res := [.t 2]
def a141 : AFn := ⟨1, c141, r141,.v⟩
def c142 : ACode := .seq (.region [Ob 8 (.mov (.t 1)),Ob 9 (.bin .add (.t 8) (Ci 1)),Ob 6 (.mov (.t 9))])
 (.block 0 (.loop (.seq (.seq (.region [Ob 10 (.mov (.t 6)),Ob 11 (.mov (.t 2)),Ob 12 (.bin .lss (.t 10) (.t 11))])
 (.cond (.t 12) (.skip)
 (.exit 0)))
 (.seq (.block 1 (.seq (.region [Ob 15 (.mov (.t 6)),Ob 7 (.mov (.t 15))])
 (.block 2 (.loop (.seq (.seq (.region [Ob 16 (.mov (.t 7)),Ob 17 (.mov (.t 1)),Ob 18 (.bin .gtr (.t 16) (.t 17)),Ob 19 (.mov (.t 18)),Og 20 19 true (.mov (.t 0)),Og 21 19 true (.mov (.t 7)),Og 22 19 true (.idx (.t 20) (.t 21) 1),Og 23 19 true (.load (.t 22) none),Og 24 19 true (.mov (.t 0)),Og 25 19 true (.mov (.t 7)),Og 26 19 true (.bin .sub (.t 25) (Ci 1)),Og 27 19 true (.idx (.t 24) (.t 26) 1),Og 28 19 true (.load (.t 27) none),Og 29 19 true (.call 148 [(.t 23), (.t 28)]),Ob 30 (.pick (.t 19) (.t 29) (.c (.bool false)))])
 (.cond (.t 30) (.skip)
 (.exit 2)))
 (.seq (.block 3 (.region [Ob 33 (.mov (.t 0)),Ob 34 (.mov (.t 7)),Ob 35 (.mov (.t 0)),Ob 36 (.mov (.t 7)),Ob 37 (.bin .sub (.t 36) (Ci 1)),Ob 38 (.mov (.t 0)),Ob 39 (.mov (.t 7)),Ob 40 (.bin .sub (.t 39) (Ci 1)),Ob 41 (.idx (.t 38) (.t 40) 1),Ob 42 (.load (.t 41) none),Ob 43 (.mov (.t 0)),Ob 44 (.mov (.t 7)),Ob 45 (.idx (.t 43) (.t 44) 1),Ob 46 (.load (.t 45) none),Ob 47 (.idx (.t 33) (.t 34) 1),On (.store (.t 47) (.t 42) 1),Ob 48 (.idx (.t 35) (.t 37) 1),On (.store (.t 48) (.t 46) 1)]))
 (.region [Ob 31 (.mov (.t 7)),Ob 32 (.bin .sub (.t 31) (Ci 1)),Ob 7 (.mov (.t 32))])))))))
 (.region [Ob 13 (.mov (.t 6)),Ob 14 (.bin .add (.t 13) (Ci 1)),Ob 6 (.mov (.t 14))])))))
def r142 : List Res := []
def a142 : AFn := ⟨3, c142, r142,.r⟩
def c148 : ACode := .seq (.region [Ob 4 (.mov (.c (.bool false)))])
 (.seq (.region [Ob 5 (.mov (.t 0)),Ob 6 (.call 115 [(.t 5)]),Ob 7 (.mov (.t 6)),Og 8 7 true (.mov (.t 1)),Og 9 7 true (.call 115 [(.t 8)]),Og 10 7 true (.not (.t 9)),Ob 11 (.pick (.t 7) (.t 10) (.c (.bool false))),Ob 12 (.mov (.t 11)),Og 13 12 false (.mov (.t 0)),Og 14 12 false (.mov (.t 1)),Og 15 12 false (.bin .lss (.t 13) (.t 14)),Ob 16 (.pick (.t 12) (.c (.bool true)) (.t 15)),Ob 4 (.mov (.t 16))])
 (.ret))
def r148 : List Res := [.t 4]
def a148 : AFn := ⟨2, c148, r148,.v⟩
def c151 : ACode := .seq (.region [Ob 2 (.mov (Ci 0))])
 (.seq (.seq (.region [Ob 3 (.mov (.t 0)),Ob 4 (.bin .geq (.t 3) (.c (.int .u32 65536)))])
 (.cond (.t 4) (.seq (.region [Ob 5 (.mov (.t 0)),Ob 6 (.bin .shr (.t 5) (.c (.int .u64 16))),Ob 0 (.mov (.t 6))])
 (.region [Ob 2 (.mov (Ci 16))]))
 (.skip)))
 (.seq (.seq (.region [Ob 7 (.mov (.t 0)),Ob 8 (.bin .geq (.t 7) (.c (.int .u32 256)))])
 (.cond (.t 8) (.seq (.region [Ob 9 (.mov (.t 0)),Ob 10 (.bin .shr (.t 9) (.c (.int .u64 8))),Ob 0 (.mov (.t 10))])
 (.region [Ob 11 (.mov (.t 2)),Ob 12 (.bin .add (.t 11) (Ci 8)),Ob 2 (.mov (.t 12))]))
 (.skip)))
 (.seq (.region [Ob 13 (.mov (.t 2)),Ob 14 (.mov (.t 0)),Ob 15 (.conv .u8 (.t 14)),⟨some 16,none,.sidx (.c (.str ⟨#[0, 1, 2, 2, 3, 3, 3, 3, 4, 4, 4, 4, 4, 4, 4, 4, 5, 5, 5, 5, 5, 5, 5, 5, 5, 5, 5, 5, 5, 5, 5, 5, 6, 6, 6, 6, 6, 6, 6, 6, 6, 6, 6, 6, 6, 6, 6, 6, 6, 6, 6, 6, 6, 6, 6, 6, 6, 6, 6, 6, 6, 6, 6, 6, 7, 7, 7, 7, 7, 7, 7, 7, 7, 7, 7, 7, 7, 7, 7, 7, 7, 7, 7, 7, 7, 7, 7, 7, 7, 7, 7, 7, 7, 7, 7, 7, 7, 7, 7, 7, 7, 7, 7, 7, 7, 7, 7, 7, 7, 7, 7, 7, 7, 7, 7, 7, 7, 7, 7, 7, 7, 7, 7, 7, 7, 7, 7, 7, 8, 8, 8, 8, 8, 8, 8, 8, 8, 8, 8, 8, 8, 8, 8, 8, 8, 8, 8, 8, 8, 8, 8, 8, 8, 8, 8, 8, 8, 8, 8, 8, 8, 8, 8, 8, 8, 8, 8, 8, 8, 8, 8, 8, 8, 8, 8, 8, 8, 8, 8, 8, 8, 8, 8, 8, 8, 8, 8, 8, 8, 8, 8, 8, 8, 8, 8, 8, 8, 8, 8, 8, 8, 8, 8, 8, 8, 8, 8, 8, 8, 8, 8, 8, 8, 8, 8, 8, 8, 8, 8, 8, 8, 8, 8, 8, 8, 8, 8, 8, 8, 8, 8, 8, 8, 8, 8, 8, 8, 8, 8, 8, 8, 8, 8, 8, 8, 8, 8, 8, 8, 8, 8, 8, 8, 8, 8, 8]⟩)) (.t 15)⟩,Ob 17 (.conv .i64 (.t 16)),Ob 18 (.bin .add (.t 13) (.t 17)),Ob 2 (.mov (.t 18))])
 (.ret))))
def r151 : List Res := [.t 2]
def a151 : AFn := ⟨1, c151, r151,.v⟩
def c152 : ACode := .seq (.region [Ob 2 (.mov (Ci 0))])
 (.seq (.seq (.region [Ob 3 (.mov (.t 0)),Ob 4 (.bin .geq (.t 3) (.c (.int .u64 4294967296)))])
 (.cond (.t 4) (.seq (.region [Ob 5 (.mov (.t 0)),Ob 6 (.bin .shr (.t 5) (.c (.int .u64 32))),Ob 0 (.mov (.t 6))])
 (.region [Ob 2 (.mov (Ci 32))]))
 (.skip)))
 (.seq (.seq (.region [Ob 7 (.mov (.t 0)),Ob 8 (.bin .geq (.t 7) (.c (.int .u64 65536)))])
 (.cond (.t 8) (.seq (.region [Ob 9 (.mov (.t 0)),Ob 10 (.bin .shr (.t 9) (.c (.int .u64 16))),Ob 0 (.mov (.t 10))])
 (.region [Ob 11 (.mov (.t 2)),Ob 12 (.bin .add (.t 11) (Ci 16)),Ob 2 (.mov (.t 12))]))
 (.skip)))
 (.seq (.seq (.region [Ob 13 (.mov (.t 0)),Ob 14 (.bin .geq (.t 13) (.c (.int .u64 256)))])
 (.cond (.t 14) (.seq (.region [Ob 15 (.mov (.t 0)),Ob 16 (.bin .shr (.t 15) (.c (.int .u64 8))),Ob 0 (.mov (.t 16))])
 (.region [Ob 17 (.mov (.t 2)),Ob 18 (.bin .add (.t 17) (Ci 8)),Ob 2 (.mov (.t 18))]))
 (.skip)))
 (.seq (.region [Ob 19 (.mov (.t 2)),Ob 20 (.mov (.t 0)),Ob 21 (.conv .u8 (.t 20)),⟨some 22,none,.sidx (.c (.str ⟨#[0, 1, 2, 2, 3, 3, 3, 3, 4, 4, 4, 4, 4, 4, 4, 4, 5, 5, 5, 5, 5, 5, 5, 5, 5, 5, 5, 5, 5, 5, 5, 5, 6, 6, 6, 6, 6, 6, 6, 6, 6, 6, 6, 6, 6, 6, 6, 6, 6, 6, 6, 6, 6, 6, 6, 6, 6, 6, 6, 6, 6, 6, 6, 6, 7, 7, 7, 7, 7, 7, 7, 7, 7, 7, 7, 7, 7, 7, 7, 7, 7, 7, 7, 7, 7, 7, 7, 7, 7, 7, 7, 7, 7, 7, 7, 7, 7, 7, 7, 7, 7, 7, 7, 7, 7, 7, 7, 7, 7, 7, 7, 7, 7, 7, 7, 7, 7, 7, 7, 7, 7, 7, 7, 7, 7, 7, 7, 7, 8, 8, 8, 8, 8, 8, 8, 8, 8, 8, 8, 8, 8, 8, 8, 8, 8, 8, 8, 8, 8, 8, 8, 8, 8, 8, 8, 8, 8, 8, 8, 8, 8, 8, 8, 8, 8, 8, 8, 8, 8, 8, 8, 8, 8, 8, 8, 8, 8, 8, 8, 8, 8, 8, 8, 8, 8, 8, 8, 8, 8, 8, 8, 8, 8, 8, 8, 8, 8, 8, 8, 8, 8, 8, 8, 8, 8, 8, 8, 8, 8, 8, 8, 8, 8, 8, 8, 8, 8, 8, 8, 8, 8, 8, 8, 8, 8, 8, 8, 8, 8, 8, 8, 8, 8, 8, 8, 8, 8, 8, 8, 8, 8, 8, 8, 8, 8, 8, 8, 8, 8, 8, 8, 8, 8, 8, 8, 8]⟩)) (.t 21)⟩,Ob 23 (.conv .i64 (.t 22)),Ob 24 (.bin .add (.t 19) (.t 23)),Ob 2 (.mov (.t 24))])
 (.ret)))))
def r152 : List Res := [.t 2]
def a152 : AFn := ⟨1, c152, r152,.v⟩
def c153 : ACode := Srt.insertionSortF 5 (some 5)
def r153 : List Res := []
def a153 : AFn := ⟨4, c153, r153,.r⟩
def c154 : ACode := Srt.heapSortF 5 (some 5) 173
def r154 : List Res := []
def a154 : AFn := ⟨4, c154, r154,.r⟩
def c155 : ACode := Srt.breakPatternsF 5 (some 5) 169 170
def r155 : List Res := []
def a155 : AFn := ⟨4, c155, r155,.r⟩
def c156 : ACode := Srt.choosePivotF 5 (some 5) 175 174
def r156 : List Res := [.t 8,.t 9]
def a156 : AFn := ⟨4, c156, r156,.r⟩
def c157 : ACode := Srt.reverseRangeF 5 (some 5)
def r157 : List Res := []
def a157 : AFn := ⟨4, c157, r157,.r⟩
def c158 : ACode := Srt.partialInsertionSortF 5 (some 5)
def r158 : List Res := [.t 8]
def a158 : AFn := ⟨4, c158, r158,.r⟩
def c159 : ACode := Srt.partitionEqualF 5 (some 5)
def r159 : List Res := [.t 10]
def a159 : AFn := ⟨5, c159, r159,.r⟩
def c160 : ACode := Srt.partitionF 5 (some 5)
def r160 : List Res := [.t 10,.t 11]
def a160 : AFn := ⟨5, c160, r160,.r⟩
def c161 : ACode := .seq (.region [Ob 3 (.mov (.c (.bool false)))])
 (.seq (.region [Ob 7 (.load (.t 1) none),Ob 8 (.mov (.t 0)),Ob 9 (.call 136 [(.t 7), (.t 8)]),Ob 6 (.mov (.t 9)),Ob 10 (.ext (.t 6) 0),Ob 11 (.ext (.t 6) 1),Ob 4 (.new (.agg [(.int .i64 0), (.int .i64 0)]) 2),On (.store (.t 4) (.t 10) 2),Ob 5 (.mov (.t 11))])
 (.seq (.region [Ob 12 (.mov (.t 5)),Ob 13 (.not (.t 12)),Ob 3 (.mov (.t 13))])
 (.ret)))
def r161 : List Res := [.t 3]
def a161 : AFn := ⟨2, c161, r161,.v⟩
def c162 : ACode := .seq (.region [Ob 2 (.mov (.c (.bool false)))])
 (.seq (.seq (.region [Ob 5 (.mov (.t 0)),Ob 6 (.len (.t 5)),Ob 7 (.mov (Ci 0))])
 (.block 0 (.loop (.seq (.region [Ob 8 (.bin .lss (.t 7) (.t 6))])
 (.seq (.cond (.t 8) (.skip)
 (.exit 0))
 (.seq (.block 1 (.seq (.region [Ob 9 (.mov (.t 7)),Ob 10 (.idx (.t 5) (.t 7) 1),Ob 11 (.load (.t 10) none),Ob 3 (.mov (.t 9)),Ob 4 (.mov (.t 11))])
 (.seq (.region [Ob 12 (.mov (.t 4)),Ob 13 (.call 108 [(.t 12)]),Ob 14 (.not (.t 13)),Ob 15 (.mov (.t 14)),Og 16 15 false (.mov (.t 3)),Og 17 15 false (.bin .gtr (.t 16) (Ci 0)),Og 18 15 false (.mov (.t 17)),Og 19 18 true (.mov (.t 4)),Og 20 18 true (.mov (.t 0)),Og 21 18 true (.mov (.t 3)),Og 22 18 true (.bin .sub (.t 21) (Ci 1)),Og 23 18 true (.idx (.t 20) (.t 22) 1),Og 24 18 true (.load (.t 23) none),Og 25 18 true (.bin .leq (.t 19) (.t 24)),Og 26 15 false (.pick (.t 18) (.t 25) (.c (.bool false))),Ob 27 (.pick (.t 15) (.c (.bool true)) (.t 26))])
 (.cond (.t 27) (.seq (.region [Ob 2 (.mov (.c (.bool false)))])
 (.ret))
 (.skip)))))
 (.region [Ob 28 (.bin .add (.t 7) (Ci 1)),Ob 7 (.mov (.t 28))])))))))
 (.seq (.region [Ob 2 (.mov (.c (.bool true)))])
 (.ret)))
def r162 : List Res := [.t 2]
def a162 : AFn := ⟨1, c162, r162,.v⟩
def c163 : ACode := .seq (.region [Ob 4 (.mov (Ci 0))])
 (.seq (.seq (.region [Ob 6 (.mov (.t 0)),Ob 7 (.len (.t 6)),Ob 8 (.mov (Ci 0))])
 (.block 0 (.loop (.seq (.region [Ob 9 (.bin .lss (.t 8) (.t 7))])
 (.seq (.cond (.t 9) (.skip)
 (.exit 0))
 (.seq (.block 1 (.seq (.region [Ob 10 (.mov (.t 8)),Ob 5 (.mov (.t 10))])
 (.seq (.region [Ob 11 (.mov (.t 1)),Ob 12 (.mov (.t 0)),Ob 13 (.mov (.t 5)),Ob 14 (.idx (.t 12) (.t 13) 1),Ob 15 (.load (.t 14) none),Ob 16 (.callv (.t 11) [(.t 15)])])
 (.cond (.t 16) (.seq (.region [Ob 17 (.mov (.t 5)),Ob 4 (.mov (.t 17))])
 (.ret))
 (.skip)))))
 (.region [Ob 18 (.bin .add (.t 8) (Ci 1)),Ob 8 (.mov (.t 18))])))))))
 (.seq (.region [Ob 4 (.mov (Ci (-1)))])
 (.ret)))
def r163 : List Res := [.t 4]
def a163 : AFn := ⟨2, c163, r163,.v⟩
def c164 : ACode := .seq (.region [Ob 2 (.box (.t 0) 2),Ob 3 (.mov (.c (.bool false)))])
 (.seq (.region [Ob 4 (.addr (.t 2) 0),Ob 5 (.load (.t 4) none),Ob 6 (.load (.t 1) none),Ob 7 (.bin .eql (.t 5) (.t 6)),Ob 3 (.mov (.t 7))])
 (.ret))
def r164 : List Res := [.t 3]
def a164 : AFn := ⟨2, c164, r164,.v⟩
def c165 : ACode := .seq (.region [Ob 3 (.box (.t 1) 2),Ob 4 (.mov (Ci 0))])
 (.seq (.seq (.region [Ob 6 (.mov (.t 0)),Ob 7 (.len (.t 6)),Ob 8 (.mov (Ci 0))])
 (.block 0 (.loop (.seq (.region [Ob 9 (.bin .lss (.t 8) (.t 7))])
 (.seq (.cond (.t 9) (.skip)
 (.exit 0))
 (.seq (.block 1 (.seq (.region [Ob 10 (.mov (.t 8)),Ob 5 (.mov (.t 10))])
 (.seq (.region [Ob 11 (.load (.t 3) (some 2)),Ob 12 (.mov (.t 0)),Ob 13 (.mov (.t 5)),Ob 14 (.idx (.t 12) (.t 13) 2),Ob 15 (.load (.t 14) (some 2)),Ob 16 (.eqv false true [.i,.i] (.t 11) (.t 15))])
 (.cond (.t 16) (.seq (.region [Ob 17 (.mov (.t 5)),Ob 4 (.mov (.t 17))])
 (.ret))
 (.skip)))))
 (.region [Ob 18 (.bin .add (.t 8) (Ci 1)),Ob 8 (.mov (.t 18))])))))))
 (.seq (.region [Ob 4 (.mov (Ci (-1)))])
 (.ret)))
def r165 : List Res := [.t 4]
def a165 : AFn := ⟨2, c165, r165,.v⟩
def c166 : ACode := .seq (.region [Ob 2 (.mov (.c (.sl [] .tight)))])
 (.seq (.region [Ob 3 (.mov (.t 0)),Ob 4 (.call 176 [(.c (.sl [] .tight)), (.t 3)]),Ob 2 (.mov (.t 4))])
 (.ret))
def r166 : List Res := [.t 2]
def a166 : AFn := ⟨1, c166, r166,.r⟩
def c167 : ACode := .seq (.region [Ob 5 (.load (.t 1) none),Ob 6 (.len (.t 5)),Ob 7 (.mov (Ci 0))])
 (.block 0 (.loop (.seq (.region [Ob 8 (.bin .lss (.t 7) (.t 6))])
 (.seq (.cond (.t 8) (.skip)
 (.exit 0))
 (.seq (.block 1 (.seq (.region [Ob 9 (.idx (.t 5) (.t 7) 5),Ob 10 (.load (.t 9) (some 5)),Ob 4 (.new (.agg [(.int .i64 0), (.int .i64 0), (.sl [] .tight), (.int .i64 0), (.int .i64 0)]) 5),On (.store (.t 4) (.t 10) 5)])
 (.seq (.region [Ob 11 (.mov (.t 0)),Ob 12 (.load (.t 4) (some 5)),Ob 13 (.callv (.t 11) [(.t 12)]),Ob 14 (.not (.t 13))])
 (.cond (.t 14) (.ret)
 (.skip)))))
 (.region [Ob 15 (.bin .add (.t 7) (Ci 1)),Ob 7 (.mov (.t 15))]))))))
def r167 : List Res := []
def a167 : AFn := ⟨2, c167, r167,.v⟩
def c169 : ACode := .seq (.region [Ob 2 (.mov (.c (.int .u64 0)))])
 (.seq (.region [Ob 3 (.mov (.t 0)),Ob 4 (.conv .u64 (.t 3)),Ob 5 (.call 114 [(.t 4)]),Ob 6 (.bin .shl (.c (.int .u64 1)) (.t 5)),Ob 2 (.mov (.t 6))])
 (.ret))
def r169 : List Res := [.t 2]
def a169 : AFn := ⟨1, c169, r169,.v⟩
def c170 : ACode := .seq (.region [Ob 2 (.mov (.c (.int .u64 0)))])
 (.seq (.region [Ob 3 (.mov (.t 0)),Ob 4 (.addr (.t 3) 0),Ob 5 (.load (.t 4) none),Ob 6 (.mov (.t 0)),Ob 7 (.addr (.t 6) 0),Ob 8 (.load (.t 7) none),Ob 9 (.bin .shl (.t 8) (.c (.int .u64 13))),Ob 10 (.bin .xor (.t 5) (.t 9)),Ob 11 (.addr (.t 3) 0),On (.store (.t 11) (.t 10) 1)])
 (.seq (.region [Ob 12 (.mov (.t 0)),Ob 13 (.addr (.t 12) 0),Ob 14 (.load (.t 13) none),Ob 15 (.mov (.t 0)),Ob 16 (.addr (.t 15) 0),Ob 17 (.load (.t 16) none),Ob 18 (.bin .shr (.t 17) (.c (.int .u64 7))),Ob 19 (.bin .xor (.t 14) (.t 18)),Ob 20 (.addr (.t 12) 0),On (.store (.t 20) (.t 19) 1)])
 (.seq (.region [Ob 21 (.mov (.t 0)),Ob 22 (.addr (.t 21) 0),Ob 23 (.load (.t 22) none),Ob 24 (.mov (.t 0)),Ob 25 (.addr (.t 24) 0),Ob 26 (.load (.t 25) none),Ob 27 (.bin .shl (.t 26) (.c (.int .u64 17))),Ob 28 (.bin .xor (.t 23) (.t 27)),Ob 29 (.addr (.t 21) 0),On (.store (.t 29) (.t 28) 1)])
 (.seq (.region [Ob 30 (.mov (.t 0)),Ob 31 (.addr (.t 30) 0),Ob 32 (.load (.t 31) none),Ob 2 (.mov (.t 32))])
 (.ret)))))
def r170 : List Res := [.t 2]
def a170 : AFn := ⟨1, c170, r170,.r⟩
def c173 : ACode := Srt.siftDownF 5 (some 5)
def r173 : List Res := []
def a173 : AFn := ⟨5, c173, r173,.r⟩
def c174 : ACode := Srt.medianAdjacentF 5 (some 5) 175
def r174 : List Res := [.t 8]
def a174 : AFn := ⟨4, c174, r174,.r⟩
def c175 : ACode := Srt.medianF 5 (some 5) 178
def r175 : List Res := [.t 12]
def a175 : AFn := ⟨6, c175, r175,.r⟩
def c176 : ACode := .seq (.region [Ob 2 (.box (.t 0) 1),Ob 4 (.mov (.c (.sl [] .tight)))])
 (.seq (.seq (.region [Ob 6 (.mov (.t 1))])
 (.block 0 (.range (.t 6) [7] (.region [Ob 5 (.new (.agg [(.int .i64 0), (.int .i64 0), (.sl [] .tight), (.int .i64 0), (.int .i64 0)]) 5),On (.store (.t 5) (.t 7) 5)])
 (.block 1 (.region [Ob 8 (.load (.t 2) none),Ob 9 (.load (.t 5) (some 5)),Ob 10 (.lit true 37 5 [(.t 9)]),Ob 11 (.app true (.t 8) (.t 10) 37 5 56),On (.store (.t 2) (.t 11) 1)])))))
 (.seq (.region [Ob 12 (.load (.t 2) none),Ob 4 (.mov (.t 12))])
 (.ret)))
def r176 : List Res := [.t 4]
def a176 : AFn := ⟨2, c176, r176,.r⟩
def c178 : ACode := Srt.order2F 5 (some 5)
def r178 : List Res := [.t 10,.t 11]
def a178 : AFn := ⟨5, c178, r178,.r⟩
def ft : FuncId → Option AFn
 | 4 => some a4
 | 5 => some a5
 | 6 => some a6
 | 7 => some a7
 | 12 => some a12
 | 14 => some a14
 | 15 => some a15
 | 16 => some a16
 | 17 => some a17
 | 18 => some a18
 | 21 => some a21
 | 22 => some a22
 | 23 => some a23
 | 24 => some a24
 | 25 => some a25
 | 26 => some a26
 | 27 => some a27
 | 28 => some a28
 | 29 => some a29
 | 30 => some a30
 | 31 => some a31
 | 32 => some a32
 | 33 => some a33
 | 35 => some a35
 | 36 => some a36
 | 37 => some a37
 | 38 => some a38
 | 39 => some a39
 | 40 => some a40
 | 42 => some a42
 | 43 => some a43
 | 44 => some a44
 | 50 => some a50
 | 54 => some a54
 | 55 => some a55
 | 56 => some a56
 | 57 => some a57
 | 58 => some a58
 | 59 => some a59
 | 60 => some a60
 | 61 => some a61
 | 62 => some a62
 | 63 => some a63
 | 64 => some a64
 | 65 => some a65
 | 66 => some a66
 | 67 => some a67
 | 68 => some a68
 | 69 => some a69
 | 70 => some a70
 | 71 => some a71
 | 72 => some a72
 | 73 => some a73
 | 75 => some a75
 | 76 => some a76
 | 77 => some a77
 | 78 => some a78
 | 79 => some a79
 | 81 => some a81
 | 82 => some a82
 | 83 => some a83
 | 86 => some a86
 | 93 => some a93
 | 94 => some a94
 | 95 => some a95
 | 96 => some a96
 | 97 => some a97
 | 98 => some a98
 | 99 => some a99
 | 100 => some a100
 | 101 => some a101
 | 102 => some a102
 | 103 => some a103
 | 104 => some a104
 | 105 => some a105
 | 106 => some a106
 | 107 => some a107
 | 108 => some a108
 | 109 => some a109
 | 110 => some a110
 | 111 => some a111
 | 112 => some a112
 | 113 => some a113
 | 114 => some a114
 | 115 => some a115
 | 116 => some a116
 | 117 => some a117
 | 118 => some a118
 | 119 => some a119
 | 120 => some a120
 | 121 => some a121
 | 122 => some a122
 | 123 => some a123
 | 124 => some a124
 | 125 => some a125
 | 126 => some a126
 | 127 => some a127
 | 128 => some a128
 | 129 => some a129
 | 130 => some a130
 | 131 => some a131
 | 132 => some a132
 | 133 => some a133
 | 134 => some a134
 | 135 => some a135
 | 136 => some a136
 | 137 => some a137
 | 138 => some a138
 | 139 => some a139
 | 140 => some a140
 | 141 => some a141
 | 142 => some a142
 | 148 => some a148
 | 151 => some a151
 | 152 => some a152
 | 153 => some a153
 | 154 => some a154
 | 155 => some a155
 | 156 => some a156
 | 157 => some a157
 | 158 => some a158
 | 159 => some a159
 | 160 => some a160
 | 161 => some a161
 | 162 => some a162
 | 163 => some a163
 | 164 => some a164
 | 165 => some a165
 | 166 => some a166
 | 167 => some a167
 | 169 => some a169
 | 170 => some a170
 | 173 => some a173
 | 174 => some a174
 | 175 => some a175
 | 176 => some a176
 | 178 => some a178
 | _ => none
theorem ft12 : ft 12 = some a12 := rfl
theorem ft15 : ft 15 = some a15 := rfl
theorem ft16 : ft 16 = some a16 := rfl
theorem ft17 : ft 17 = some a17 := rfl
theorem ft18 : ft 18 = some a18 := rfl
theorem ft21 : ft 21 = some a21 := rfl
theorem ft22 : ft 22 = some a22 := rfl
theorem ft24 : ft 24 = some a24 := rfl
theorem ft26 : ft 26 = some a26 := rfl
theorem ft27 : ft 27 = some a27 := rfl
theorem ft29 : ft 29 = some a29 := rfl
theorem ft31 : ft 31 = some a31 := rfl
theorem ft32 : ft 32 = some a32 := rfl
theorem ft35 : ft 35 = some a35 := rfl
theorem ft39 : ft 39 = some a39 := rfl
theorem ft40 : ft 40 = some a40 := rfl
theorem ft42 : ft 42 = some a42 := rfl
theorem ft43 : ft 43 = some a43 := rfl
theorem ft44 : ft 44 = some a44 := rfl
theorem ft50 : ft 50 = some a50 := rfl
theorem ft54 : ft 54 = some a54 := rfl
theorem ft55 : ft 55 = some a55 := rfl
theorem ft56 : ft 56 = some a56 := rfl
theorem ft58 : ft 58 = some a58 := rfl
theorem ft59 : ft 59 = some a59 := rfl
theorem ft60 : ft 60 = some a60 := rfl
theorem ft61 : ft 61 = some a61 := rfl
theorem ft63 : ft 63 = some a63 := rfl
theorem ft64 : ft 64 = some a64 := rfl
theorem ft65 : ft 65 = some a65 := rfl
theorem ft66 : ft 66 = some a66 := rfl
theorem ft67 : ft 67 = some a67 := rfl
theorem ft68 : ft 68 = some a68 := rfl
theorem ft69 : ft 69 = some a69 := rfl
theorem ft70 : ft 70 = some a70 := rfl
theorem ft71 : ft 71 = some a71 := rfl
theorem ft72 : ft 72 = some a72 := rfl
theorem ft73 : ft 73 = some a73 := rfl
theorem ft75 : ft 75 = some a75 := rfl
theorem ft76 : ft 76 = some a76 := rfl
theorem ft77 : ft 77 = some a77 := rfl
theorem ft78 : ft 78 = some a78 := rfl
theorem ft79 : ft 79 = some a79 := rfl
theorem ft81 : ft 81 = some a81 := rfl
theorem ft82 : ft 82 = some a82 := rfl
theorem ft83 : ft 83 = some a83 := rfl
theorem ft86 : ft 86 = some a86 := rfl
theorem ft93 : ft 93 = some a93 := rfl
theorem ft94 : ft 94 = some a94 := rfl
theorem ft95 : ft 95 = some a95 := rfl
theorem ft96 : ft 96 = some a96 := rfl
theorem ft97 : ft 97 = some a97 := rfl
theorem ft98 : ft 98 = some a98 := rfl
theorem ft99 : ft 99 = some a99 := rfl
theorem ft100 : ft 100 = some a100 := rfl
theorem ft101 : ft 101 = some a101 := rfl
theorem ft102 : ft 102 = some a102 := rfl
theorem ft103 : ft 103 = some a103 := rfl
theorem ft104 : ft 104 = some a104 := rfl
theorem ft105 : ft 105 = some a105 := rfl
theorem ft106 : ft 106 = some a106 := rfl
theorem ft107 : ft 107 = some a107 := rfl
theorem ft108 : ft 108 = some a108 := rfl
theorem ft109 : ft 109 = some a109 := rfl
theorem ft110 : ft 110 = some a110 := rfl
theorem ft111 : ft 111 = some a111 := rfl
theorem ft112 : ft 112 = some a112 := rfl
theorem ft113 : ft 113 = some a113 := rfl
theorem ft114 : ft 114 = some a114 := rfl
theorem ft115 : ft 115 = some a115 := rfl
theorem ft116 : ft 116 = some a116 := rfl
theorem ft117 : ft 117 = some a117 := rfl
theorem ft118 : ft 118 = some a118 := rfl
theorem ft119 : ft 119 = some a119 := rfl
theorem ft120 : ft 120 = some a120 := rfl
theorem ft122 : ft 122 = some a122 := rfl
theorem ft123 : ft 123 = some a123 := rfl
theorem ft124 : ft 124 = some a124 := rfl
theorem ft125 : ft 125 = some a125 := rfl
theorem ft126 : ft 126 = some a126 := rfl
theorem ft127 : ft 127 = some a127 := rfl
theorem ft128 : ft 128 = some a128 := rfl
theorem ft129 : ft 129 = some a129 := rfl
theorem ft130 : ft 130 = some a130 := rfl
theorem ft131 : ft 131 = some a131 := rfl
theorem ft132 : ft 132 = some a132 := rfl
theorem ft133 : ft 133 = some a133 := rfl
theorem ft134 : ft 134 = some a134 := rfl
theorem ft135 : ft 135 = some a135 := rfl
theorem ft136 : ft 136 = some a136 := rfl
theorem ft137 : ft 137 = some a137 := rfl
theorem ft138 : ft 138 = some a138 := rfl
theorem ft139 : ft 139 = some a139 := rfl
theorem ft140 : ft 140 = some a140 := rfl
theorem ft141 : ft 141 = some a141 := rfl
theorem ft142 : ft 142 = some a142 := rfl
theorem ft148 : ft 148 = some a148 := rfl
theorem ft161 : ft 161 = some a161 := rfl
theorem ft162 : ft 162 = some a162 := rfl
theorem ft163 : ft 163 = some a163 := rfl
theorem ft164 : ft 164 = some a164 := rfl
theorem ft165 : ft 165 = some a165 := rfl
theorem ft166 : ft 166 = some a166 := rfl
theorem ft167 : ft 167 = some a167 := rfl
theorem ft176 : ft 176 = some a176 := rfl
end Go.Ab.T
end

section
namespace Go.Ab.T
abbrev WBv (f : FuncId) : Prop := ∀ (as : List AV) (s : St) (K : AV → St → Prop), WB ft f as s K = WV ft f (as.map (snap s.mem dep)) fun v => (as.all (fun a => !hot dep a) || plain dep v) = true ∧ K v s
abbrev WBr (f : FuncId) : Prop := ∀ (as : List AV) (s : St) (K : AV → St → Prop), WB ft f as s K = WR ft (.f f) as s.mem fun v m => K v (s.setMem m)
abbrev WBo (f : FuncId) : Prop := ∀ (as : List AV) (s : St) (K : AV → St → Prop), WB ft f as s K = WR ft (.f f) (as.map (snap s.mem dep)) .nil fun v m => (as.all (fun a => !hot dep a) || (ownly dep v && m.blks.all Blk.ownly)) = true ∧ K (shift s.mem.blks.length s.mem.toks.length dep v) (s.setMem (joinMem s.mem m dep))
abbrev WFv (f : FuncId) : Prop := ∀ (as : List AV) (s : St) (K : AV → St → Prop), WF ft f as s K = WV ft f (as.map (snap s.mem dep)) fun v => (as.all (fun a => !hot dep a) || plain dep v) = true ∧ K v s
theorem WB15 : WBv 15 := WB_v ft15 rfl
theorem WB17 : WBo 17 := WB_o ft17 rfl
theorem WB18 : WBv 18 := WB_v ft18 rfl
theorem WB21 : WBv 21 := WB_v ft21 rfl
theorem WB22 : WBv 22 := WB_v ft22 rfl
theorem WB24 : WBv 24 := WB_v ft24 rfl
theorem WB26 : WBv 26 := WB_v ft26 rfl
theorem WB27 : WBv 27 := WB_v ft27 rfl
theorem WB29 : WBv 29 := WB_v ft29 rfl
theorem WB31 : WBv 31 := WB_v ft31 rfl
theorem WB32 : WBv 32 := WB_v ft32 rfl
theorem WB35 : WBv 35 := WB_v ft35 rfl
theorem WB39 : WBv 39 := WB_v ft39 rfl
theorem WB40 : WBv 40 := WB_v ft40 rfl
theorem WB42 : WBv 42 := WB_v ft42 rfl
theorem WB43 : WBv 43 := WB_v ft43 rfl
theorem WB44 : WBv 44 := WB_v ft44 rfl
theorem WB50 : WBv 50 := WB_v ft50 rfl
theorem WB54 : WBv 54 := WB_v ft54 rfl
theorem WB55 : WBv 55 := WB_v ft55 rfl
theorem WB56 : WBv 56 := WB_v ft56 rfl
theorem WB58 : WBv 58 := WB_v ft58 rfl
theorem WB59 : WBr 59 := WB_r ft59 rfl
theorem WB60 : WBv 60 := WB_v ft60 rfl
theorem WB61 : WBv 61 := WB_v ft61 rfl
theorem WB63 : WBv 63 := WB_v ft63 rfl
theorem WB64 : WBv 64 := WB_v ft64 rfl
theorem WB65 : WBv 65 := WB_v ft65 rfl
theorem WB66 : WBv 66 := WB_v ft66 rfl
theorem WB67 : WBv 67 := WB_v ft67 rfl
theorem WB68 : WBv 68 := WB_v ft68 rfl
theorem WB69 : WBv 69 := WB_v ft69 rfl
theorem WB70 : WBv 70 := WB_v ft70 rfl
theorem WB71 : WBv 71 := WB_v ft71 rfl
theorem WB72 : WBr 72 := WB_r ft72 rfl
theorem WB73 : WBv 73 := WB_v ft73 rfl
theorem WB75 : WBv 75 := WB_v ft75 rfl
theorem WB76 : WBv 76 := WB_v ft76 rfl
theorem WB77 : WBv 77 := WB_v ft77 rfl
theorem WB78 : WBv 78 := WB_v ft78 rfl
theorem WB79 : WBv 79 := WB_v ft79 rfl
theorem WB81 : WBv 81 := WB_v ft81 rfl
theorem WB82 : WBv 82 := WB_v ft82 rfl
theorem WB83 : WBr 83 := WB_r ft83 rfl
theorem WB86 : WBr 86 := WB_r ft86 rfl
theorem WB93 : WBv 93 := WB_v ft93 rfl
theorem WB94 : WBv 94 := WB_v ft94 rfl
theorem WB95 : WBv 95 := WB_v ft95 rfl
theorem WB96 : WBv 96 := WB_v ft96 rfl
theorem WB97 : WBv 97 := WB_v ft97 rfl
theorem WB98 : WBv 98 := WB_v ft98 rfl
theorem WB99 : WBv 99 := WB_v ft99 rfl
theorem WB100 : WBv 100 := WB_v ft100 rfl
theorem WB101 : WBv 101 := WB_v ft101 rfl
theorem WB102 : WBv 102 := WB_v ft102 rfl
theorem WB103 : WBv 103 := WB_v ft103 rfl
theorem WB104 : WBv 104 := WB_v ft104 rfl
theorem WB105 : WBr 105 := WB_r ft105 rfl
theorem WB106 : WBv 106 := WB_v ft106 rfl
theorem WB107 : WBv 107 := WB_v ft107 rfl
theorem WB108 : WBv 108 := WB_v ft108 rfl
theorem WB109 : WBv 109 := WB_v ft109 rfl
theorem WB110 : WBv 110 := WB_v ft110 rfl
theorem WB111 : WBv 111 := WB_v ft111 rfl
theorem WB112 : WBv 112 := WB_v ft112 rfl
theorem WB113 : WBr 113 := WB_r ft113 rfl
theorem WB114 : WBv 114 := WB_v ft114 rfl
theorem WB115 : WBv 115 := WB_v ft115 rfl
theorem WB116 : WBr 116 := WB_r ft116 rfl
theorem WB117 : WBv 117 := WB_v ft117 rfl
theorem WB118 : WBv 118 := WB_v ft118 rfl
theorem WB119 : WBv 119 := WB_v ft119 rfl
theorem WB120 : WBv 120 := WB_v ft120 rfl
theorem WB122 : WBr 122 := WB_r ft122 rfl
theorem WB123 : WBv 123 := WB_v ft123 rfl
theorem WB124 : WBr 124 := WB_r ft124 rfl
theorem WB125 : WBv 125 := WB_v ft125 rfl
theorem WB126 : WBr 126 := WB_r ft126 rfl
theorem WB127 : WBr 127 := WB_r ft127 rfl
theorem WB128 : WBr 128 := WB_r ft128 rfl
theorem WB129 : WBv 129 := WB_v ft129 rfl
theorem WB130 : WBr 130 := WB_r ft130 rfl
theorem WB131 : WBv 131 := WB_v ft131 rfl
theorem WB132 : WBv 132 := WB_v ft132 rfl
theorem WB133 : WBv 133 := WB_v ft133 rfl
theorem WB134 : WBv 134 := WB_v ft134 rfl
theorem WB135 : WBv 135 := WB_v ft135 rfl
theorem WB136 : WBv 136 := WB_v ft136 rfl
theorem WB137 : WBv 137 := WB_v ft137 rfl
theorem WB138 : WBv 138 := WB_v ft138 rfl
theorem WB139 : WBv 139 := WB_v ft139 rfl
theorem WB140 : WBv 140 := WB_v ft140 rfl
theorem WB141 : WBv 141 := WB_v ft141 rfl
theorem WB142 : WBr 142 := WB_r ft142 rfl
theorem WB148 : WBv 148 := WB_v ft148 rfl
theorem WB161 : WBv 161 := WB_v ft161 rfl
theorem WB162 : WBv 162 := WB_v ft162 rfl
theorem WB163 : WBv 163 := WB_v ft163 rfl
theorem WB164 : WBv 164 := WB_v ft164 rfl
theorem WB165 : WBv 165 := WB_v ft165 rfl
theorem WB166 : WBr 166 := WB_r ft166 rfl
theorem WB176 : WBr 176 := WB_r ft176 rfl
theorem WF16 : WFv 16 := WF_v ft16
end Go.Ab.T
end
