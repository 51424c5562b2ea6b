/-
  A part of the proofs over this seat.
  (The texts KcT KcW, one behind the other.)
-/
import Derived.Test.YtaenhjnmmdaokaaA0
set_option linter.unusedSimpArgs false
set_option linter.unusedVariables false
set_option linter.unusedSectionVars false
section
namespace Go.Ab.T
def c2 : ACode := .region [Ob 0 (.call 1 [])]
def r2 : List Res := []
def a2 : AFn := ⟨0, c2, r2,.v⟩

def c3 : ACode := .seq (.region [Ob 3 (.box (.t 0) 4),Ob 6 (.mov (.c (.bool false)))])
 (.seq (.seq (.region [Ob 17 (.load (.t 3) (some 4)),Ob 18 (.call 12 [(.t 17)]),Ob 19 (.not (.t 18)),Ob 20 (.mov (.t 19)),Og 21 20 false (.mov (.t 1)),Og 22 20 false (.bin .lss (.t 21) (Ci 0)),Ob 23 (.pick (.t 20) (.c (.bool true)) (.t 22)),Ob 24 (.mov (.t 23)),Og 25 24 false (.mov (.t 1)),Og 26 24 false (.addr (.t 3) 3),Og 27 24 false (.load (.t 26) none),Og 28 24 false (.len (.t 27)),Og 29 24 false (.bin .geq (.t 25) (.t 28)),Ob 30 (.pick (.t 24) (.c (.bool true)) (.t 29)),Ob 31 (.mov (.t 30)),Og 32 31 false (.mov (.t 2)),Og 33 31 false (.bin .lss (.t 32) (Ci 0)),Ob 34 (.pick (.t 31) (.c (.bool true)) (.t 33)),Ob 35 (.mov (.t 34)),Og 36 35 false (.mov (.t 2)),Og 37 35 false (.addr (.t 3) 0),Og 38 35 false (.load (.t 37) none),Og 39 35 false (.len (.t 38)),Og 40 35 false (.bin .geq (.t 36) (.t 39)),Ob 41 (.pick (.t 35) (.c (.bool true)) (.t 40))])
 (.cond (.t 41) (.seq (.region [Ob 42 (.call 13 []),Ob 6 (.mov (.t 42))])
 (.ret))
 (.skip)))
 (.seq (.region [Ob 44 (.load (.t 3) (some 4)),Ob 45 (.call 14 [(.t 44)]),Ob 43 (.mov (.t 45)),Ob 46 (.ext (.t 43) 0),Ob 47 (.ext (.t 43) 1),Ob 48 (.ext (.t 43) 2),Ob 7 (.mov (.t 46)),Ob 8 (.mov (.t 47)),Ob 9 (.mov (.t 48))])
 (.seq (.region [Ob 50 (.load (.t 3) (some 4)),Ob 51 (.call 15 [(.t 50)]),Ob 49 (.mov (.t 51)),Ob 52 (.ext (.t 49) 0),Ob 53 (.ext (.t 49) 1),Ob 10 (.mov (.t 52)),Ob 11 (.mov (.t 53))])
 (.seq (.region [Ob 55 (.load (.t 3) (some 4)),Ob 56 (.mov (.t 1)),Ob 57 (.mov (.t 2)),Ob 58 (.call 16 [(.t 55), (.t 56), (.t 57)]),Ob 54 (.mov (.t 58)),Ob 59 (.ext (.t 54) 0),Ob 60 (.ext (.t 54) 1),Ob 12 (.new (.agg [(.int .i64 0), (.int .i64 0)]) 2),On (.store (.t 12) (.t 59) 2),Ob 13 (.mov (.t 60))])
 (.seq (.region [Ob 62 (.load (.t 3) (some 4)),Ob 63 (.call 17 [(.t 62)]),Ob 61 (.mov (.t 63)),Ob 64 (.ext (.t 61) 0),Ob 65 (.ext (.t 61) 1),Ob 14 (.mov (.t 64)),Ob 15 (.mov (.t 65))])
 (.seq (.seq (.region [Ob 66 (.mov (.t 9)),Ob 67 (.bin .neq (.t 66) (Ci 0)),Ob 68 (.mov (.t 67)),Og 69 68 false (.mov (.t 11)),Og 70 68 false (.mov (.t 13)),Og 71 68 false (.bin .neq (.t 69) (.t 70)),Ob 72 (.pick (.t 68) (.c (.bool true)) (.t 71)),Ob 73 (.mov (.t 72)),Og 74 73 false (.mov (.t 11)),Og 75 73 false (.mov (.t 15)),Og 76 73 false (.bin .neq (.t 74) (.t 75)),Ob 77 (.pick (.t 73) (.c (.bool true)) (.t 76)),Ob 78 (.mov (.t 77)),Og 79 78 false (.mov (.t 11)),Og 80 78 false (.bin .neq (.t 79) (Ci 0)),Og 81 78 false (.mov (.t 80)),Og 82 81 true (.mov (.t 11)),Og 83 81 true (.bin .neq (.t 82) (Ci 3)),Og 84 78 false (.pick (.t 81) (.t 83) (.c (.bool false))),Ob 85 (.pick (.t 78) (.c (.bool true)) (.t 84))])
 (.cond (.t 85) (.seq (.region [Ob 6 (.mov (.c (.bool false)))])
 (.ret))
 (.skip)))
 (.seq (.seq (.region [Ob 86 (.mov (.t 7)),Ob 87 (.bin .eql (.t 86) (Ci 0)),Ob 88 (.mov (.t 87)),Og 89 88 false (.mov (.t 7)),Og 90 88 false (.bin .eql (.t 89) (Ci 4)),Ob 91 (.pick (.t 88) (.c (.bool true)) (.t 90))])
 (.cond (.t 91) (.seq (.region [Ob 92 (.addr (.t 3) 3),Ob 93 (.load (.t 92) none),Ob 94 (.mov (.t 1)),Ob 95 (.idx (.t 93) (.t 94) 6),Ob 96 (.addr (.t 95) 0),Ob 97 (.load (.t 96) none),Ob 98 (.mov (.t 2)),Ob 99 (.idx (.t 97) (.t 98) 1),Ob 100 (.load (.t 99) none),Ob 16 (.mov (.t 100))])
 (.seq (.region [Ob 101 (.mov (.t 7)),Ob 102 (.bin .eql (.t 101) (Ci 0)),Ob 103 (.mov (.t 8)),Ob 104 (.bin .eql (.t 103) (Ci (-1))),Ob 105 (.eqv false false [.b] (.t 102) (.t 104)),Ob 106 (.mov (.t 105)),Og 107 106 true (.mov (.t 11)),Og 108 106 true (.bin .eql (.t 107) (Ci 0)),Ob 109 (.pick (.t 106) (.t 108) (.c (.bool false))),Ob 110 (.mov (.t 109)),Og 111 110 true (.mov (.t 10)),Og 112 110 true (.bin .eql (.t 111) (Ci 0)),Ob 113 (.pick (.t 110) (.t 112) (.c (.bool false))),Ob 114 (.mov (.t 113)),Og 115 114 true (.mov (.t 14)),Og 116 114 true (.len (.t 115)),Og 117 114 true (.bin .eql (.t 116) (Ci 0)),Ob 118 (.pick (.t 114) (.t 117) (.c (.bool false))),Ob 119 (.mov (.t 118)),Og 120 119 true (.load (.t 12) (some 2)),Og 121 119 true (.mov (.t 16)),Og 122 119 true (.mov (.t 16)),Og 123 119 true (.build [(.int .i64 0), (.int .i64 0)] [(0, 1, (.t 121)), (1, 1, (.t 122))]),Og 124 119 true (.eqv false true [.i,.i] (.t 120) (.t 123)),Ob 125 (.pick (.t 119) (.t 124) (.c (.bool false))),Ob 126 (.mov (.t 125)),Og 127 126 true (.load (.t 3) (some 4)),Og 128 126 true (.load (.t 3) (some 4)),Og 129 126 true (.call 19 [(.t 128)]),Og 130 126 true (.call 18 [(.t 127), (.t 129)]),Ob 131 (.pick (.t 126) (.t 130) (.c (.bool false))),Ob 132 (.mov (.t 131)),Og 133 132 true (.call 13 []),Ob 134 (.pick (.t 132) (.t 133) (.c (.bool false))),Ob 6 (.mov (.t 134))])
 (.ret)))
 (.skip)))
 (.seq (.region [Ob 135 (.mov (.t 11)),Ob 136 (.bin .neq (.t 135) (Ci 0)),Ob 137 (.mov (.t 136)),Og 138 137 false (.mov (.t 10)),Og 139 137 false (.bin .gtr (.t 138) (Ci 0)),Og 140 137 false (.mov (.t 139)),Og 141 140 true (.mov (.t 14)),Og 142 140 true (.len (.t 141)),Og 143 140 true (.bin .gtr (.t 142) (Ci 0)),Og 144 137 false (.pick (.t 140) (.t 143) (.c (.bool false))),Ob 145 (.pick (.t 137) (.c (.bool true)) (.t 144)),Ob 146 (.mov (.t 145)),Og 147 146 true (.call 13 []),Ob 148 (.pick (.t 146) (.t 147) (.c (.bool false))),Ob 6 (.mov (.t 148))])
 (.ret)))))))))
def r3 : List Res := [.t 6]
def a3 : AFn := ⟨3, c3, r3,.v⟩

def c4 : ACode := .seq (.region [Ob 2 (.box (.t 0) 4),Ob 4 (.mov (.c (.bool false)))])
 (.seq (.seq (.region [Ob 20 (.load (.t 2) (some 4)),Ob 21 (.call 12 [(.t 20)]),Ob 22 (.not (.t 21)),Ob 23 (.mov (.t 22)),Og 24 23 false (.load (.t 2) (some 4)),Og 25 23 false (.mov (.t 1)),Og 26 23 false (.call 18 [(.t 24), (.t 25)]),Og 27 23 false (.not (.t 26)),Ob 28 (.pick (.t 23) (.c (.bool true)) (.t 27))])
 (.cond (.t 28) (.seq (.region [Ob 29 (.call 13 []),Ob 4 (.mov (.t 29))])
 (.ret))
 (.skip)))
 (.seq (.region [Ob 31 (.load (.t 2) (some 4)),Ob 32 (.call 15 [(.t 31)]),Ob 30 (.mov (.t 32)),Ob 33 (.ext (.t 30) 0),Ob 34 (.ext (.t 30) 1),Ob 5 (.mov (.t 33)),Ob 6 (.mov (.t 34))])
 (.seq (.region [Ob 35 (.load (.t 2) (some 4)),Ob 36 (.mov (.t 1)),Ob 37 (.call 20 [(.t 35), (.t 36)]),Ob 7 (.mov (.t 37))])
 (.seq (.seq (.region [Ob 38 (.mov (.t 6)),Ob 39 (.bin .neq (.t 38) (Ci 0)),Ob 40 (.mov (.t 39)),Og 41 40 false (.mov (.t 5)),Og 42 40 false (.bin .lss (.t 41) (Ci 0)),Ob 43 (.pick (.t 40) (.c (.bool true)) (.t 42)),Ob 44 (.mov (.t 43)),Og 45 44 false (.mov (.t 5)),Og 46 44 false (.mov (.t 7)),Og 47 44 false (.bin .gtr (.t 45) (.t 46)),Ob 48 (.pick (.t 44) (.c (.bool true)) (.t 47))])
 (.cond (.t 48) (.seq (.region [Ob 4 (.mov (.c (.bool false)))])
 (.ret))
 (.skip)))
 (.seq (.seq (.region [Ob 49 (.mov (.t 7)),Ob 50 (.mov (.t 5)),Ob 51 (.bin .gtr (.t 49) (.t 50))])
 (.cond (.t 51) (.seq (.region [Ob 52 (.call 13 []),Ob 4 (.mov (.t 52))])
 (.ret))
 (.skip)))
 (.seq (.region [Ob 54 (.load (.t 2) (some 4)),Ob 55 (.call 21 [(.t 54)]),Ob 53 (.mov (.t 55)),Ob 56 (.ext (.t 53) 0),Ob 57 (.ext (.t 53) 1),Ob 8 (.mov (.t 56)),Ob 9 (.mov (.t 57))])
 (.seq (.region [Ob 59 (.load (.t 2) (some 4)),Ob 60 (.call 17 [(.t 59)]),Ob 58 (.mov (.t 60)),Ob 61 (.ext (.t 58) 0),Ob 62 (.ext (.t 58) 1),Ob 10 (.mov (.t 61)),Ob 11 (.mov (.t 62))])
 (.seq (.seq (.region [Ob 63 (.mov (.t 9)),Ob 64 (.bin .neq (.t 63) (Ci 0)),Ob 65 (.mov (.t 64)),Og 66 65 false (.mov (.t 11)),Og 67 65 false (.bin .neq (.t 66) (Ci 0)),Ob 68 (.pick (.t 65) (.c (.bool true)) (.t 67)),Ob 69 (.mov (.t 68)),Og 70 69 false (.mov (.t 8)),Og 71 69 false (.len (.t 70)),Og 72 69 false (.addr (.t 2) 3),Og 73 69 false (.load (.t 72) none),Og 74 69 false (.len (.t 73)),Og 75 69 false (.bin .gtr (.t 71) (.t 74)),Ob 76 (.pick (.t 69) (.c (.bool true)) (.t 75)),Ob 77 (.mov (.t 76)),Og 78 77 false (.mov (.t 10)),Og 79 77 false (.len (.t 78)),Og 80 77 false (.addr (.t 2) 3),Og 81 77 false (.load (.t 80) none),Og 82 77 false (.len (.t 81)),Og 83 77 false (.bin .gtr (.t 79) (.t 82)),Ob 84 (.pick (.t 77) (.c (.bool true)) (.t 83))])
 (.cond (.t 84) (.seq (.region [Ob 4 (.mov (.c (.bool false)))])
 (.ret))
 (.skip)))
 (.seq (.seq (.region [Ob 12 (.mov (Ci 0))])
 (.block 0 (.loop (.seq (.seq (.region [Ob 85 (.mov (.t 12)),Ob 86 (.addr (.t 2) 3),Ob 87 (.load (.t 86) none),Ob 88 (.len (.t 87)),Ob 89 (.bin .lss (.t 85) (.t 88))])
 (.cond (.t 89) (.skip)
 (.exit 0)))
 (.seq (.block 1 (.seq (.region [Ob 92 (.load (.t 2) (some 4)),Ob 93 (.mov (.t 12)),Ob 94 (.mov (.t 1)),Ob 95 (.mov (.t 12)),Ob 96 (.idx (.t 94) (.t 95) 1),Ob 97 (.load (.t 96) none),Ob 98 (.call 22 [(.t 92), (.t 93), (.t 97)]),Ob 13 (.mov (.t 98))])
 (.seq (.seq (.region [Ob 99 (.mov (.t 13)),Ob 100 (.bin .eql (.t 99) (Ci 0)),Ob 101 (.mov (.t 100)),Og 102 101 true (.mov (.t 8)),Og 103 101 true (.mov (.t 12)),Og 104 101 true (.call 23 [(.t 102), (.t 103)]),Ob 105 (.pick (.t 101) (.t 104) (.c (.bool false))),Ob 106 (.mov (.t 105)),Og 107 106 false (.mov (.t 13)),Og 108 106 false (.bin .gtr (.t 107) (Ci 0)),Og 109 106 false (.mov (.t 108)),Og 110 109 true (.mov (.t 10)),Og 111 109 true (.mov (.t 12)),Og 112 109 true (.call 23 [(.t 110), (.t 111)]),Og 113 109 true (.not (.t 112)),Og 114 106 false (.pick (.t 109) (.t 113) (.c (.bool false))),Ob 115 (.pick (.t 106) (.c (.bool true)) (.t 114)),Ob 116 (.mov (.t 115)),Og 117 116 false (.mov (.t 8)),Og 118 116 false (.mov (.t 12)),Og 119 116 false (.call 23 [(.t 117), (.t 118)]),Og 120 116 false (.mov (.t 119)),Og 121 120 true (.mov (.t 10)),Og 122 120 true (.mov (.t 12)),Og 123 120 true (.call 23 [(.t 121), (.t 122)]),Og 124 120 true (.not (.t 123)),Og 125 116 false (.pick (.t 120) (.t 124) (.c (.bool false))),Ob 126 (.pick (.t 116) (.c (.bool true)) (.t 125))])
 (.cond (.t 126) (.seq (.region [Ob 4 (.mov (.c (.bool false)))])
 (.ret))
 (.skip)))
 (.seq (.region [Ob 128 (.load (.t 2) (some 4)),Ob 129 (.mov (.t 12)),Ob 130 (.call 24 [(.t 128), (.t 129)]),Ob 127 (.mov (.t 130)),Ob 131 (.ext (.t 127) 0),Ob 132 (.ext (.t 127) 1),Ob 14 (.new (.agg [(.int .i64 0), (.int .i64 0)]) 2),On (.store (.t 14) (.t 131) 2),Ob 15 (.mov (.t 132))])
 (.seq (.seq (.region [Ob 133 (.load (.t 2) (some 4)),Ob 134 (.mov (.t 12)),Ob 135 (.mov (.t 1)),Ob 136 (.mov (.t 12)),Ob 137 (.idx (.t 135) (.t 136) 1),Ob 138 (.load (.t 137) none),Ob 139 (.call 25 [(.t 133), (.t 134), (.t 138)]),Ob 140 (.addr (.t 2) 3),Ob 141 (.load (.t 140) none),Ob 142 (.mov (.t 12)),Ob 143 (.idx (.t 141) (.t 142) 6),Ob 144 (.addr (.t 143) 5),Ob 145 (.load (.t 144) none),Ob 146 (.bin .sub (.t 139) (.t 145)),Ob 16 (.mov (.t 146))])
 (.seq (.region [Ob 147 (.mov (.t 15)),Ob 148 (.bin .neq (.t 147) (Ci 0)),Ob 149 (.mov (.t 148)),Og 150 149 false (.mov (.t 16)),Og 151 149 false (.addr (.t 14) 0),Og 152 149 false (.load (.t 151) none),Og 153 149 false (.bin .lss (.t 150) (.t 152)),Ob 154 (.pick (.t 149) (.c (.bool true)) (.t 153)),Ob 155 (.mov (.t 154)),Og 156 155 false (.mov (.t 16)),Og 157 155 false (.addr (.t 14) 1),Og 158 155 false (.load (.t 157) none),Og 159 155 false (.bin .gtr (.t 156) (.t 158)),Ob 160 (.pick (.t 155) (.c (.bool true)) (.t 159))])
 (.cond (.t 160) (.seq (.region [Ob 4 (.mov (.c (.bool false)))])
 (.ret))
 (.skip))))
 (.seq (.region [Ob 17 (.mov (Ci 0))])
 (.block 2 (.loop (.seq (.seq (.region [Ob 161 (.mov (.t 17)),Ob 162 (.addr (.t 2) 0),Ob 163 (.load (.t 162) none),Ob 164 (.len (.t 163)),Ob 165 (.bin .lss (.t 161) (.t 164))])
 (.cond (.t 165) (.skip)
 (.exit 2)))
 (.seq (.block 3 (.seq (.region [Ob 169 (.load (.t 2) (some 4)),Ob 170 (.mov (.t 12)),Ob 171 (.mov (.t 17)),Ob 172 (.call 16 [(.t 169), (.t 170), (.t 171)]),Ob 168 (.mov (.t 172)),Ob 173 (.ext (.t 168) 0),Ob 174 (.ext (.t 168) 1),Ob 18 (.new (.agg [(.int .i64 0), (.int .i64 0)]) 2),On (.store (.t 18) (.t 173) 2),Ob 19 (.mov (.t 174))])
 (.seq (.region [Ob 175 (.mov (.t 19)),Ob 176 (.bin .neq (.t 175) (Ci 0)),Ob 177 (.mov (.t 176)),Og 178 177 false (.mov (.t 1)),Og 179 177 false (.mov (.t 12)),Og 180 177 false (.idx (.t 178) (.t 179) 1),Og 181 177 false (.load (.t 180) none),Og 182 177 false (.mov (.t 17)),Og 183 177 false (.idx (.t 181) (.t 182) 1),Og 184 177 false (.load (.t 183) none),Og 185 177 false (.addr (.t 18) 0),Og 186 177 false (.load (.t 185) none),Og 187 177 false (.bin .lss (.t 184) (.t 186)),Ob 188 (.pick (.t 177) (.c (.bool true)) (.t 187)),Ob 189 (.mov (.t 188)),Og 190 189 false (.mov (.t 1)),Og 191 189 false (.mov (.t 12)),Og 192 189 false (.idx (.t 190) (.t 191) 1),Og 193 189 false (.load (.t 192) none),Og 194 189 false (.mov (.t 17)),Og 195 189 false (.idx (.t 193) (.t 194) 1),Og 196 189 false (.load (.t 195) none),Og 197 189 false (.addr (.t 18) 1),Og 198 189 false (.load (.t 197) none),Og 199 189 false (.bin .gtr (.t 196) (.t 198)),Ob 200 (.pick (.t 189) (.c (.bool true)) (.t 199))])
 (.cond (.t 200) (.seq (.region [Ob 4 (.mov (.c (.bool false)))])
 (.ret))
 (.skip)))))
 (.region [Ob 166 (.mov (.t 17)),Ob 167 (.bin .add (.t 166) (Ci 1)),Ob 17 (.mov (.t 167))])))))))))))
 (.region [Ob 90 (.mov (.t 12)),Ob 91 (.bin .add (.t 90) (Ci 1)),Ob 12 (.mov (.t 91))]))))))
 (.seq (.region [Ob 201 (.call 13 []),Ob 4 (.mov (.t 201))])
 (.ret)))))))))))
def r4 : List Res := [.t 4]
def a4 : AFn := ⟨2, c4, r4,.v⟩

def c5 : ACode := .seq (.region [Ob 1 (.box (.t 0) 4),Ob 2 (.mov (.c (.bool false)))])
 (.seq (.seq (.region [Ob 11 (.load (.t 1) (some 4)),Ob 12 (.call 12 [(.t 11)]),Ob 13 (.not (.t 12))])
 (.cond (.t 13) (.seq (.region [Ob 14 (.call 13 []),Ob 2 (.mov (.t 14))])
 (.ret))
 (.skip)))
 (.seq (.region [Ob 3 (.mov (Ci 0)),Ob 4 (.mov (Ci 0))])
 (.seq (.seq (.region [Ob 5 (.mov (Ci 0))])
 (.block 0 (.loop (.seq (.seq (.region [Ob 15 (.mov (.t 5)),Ob 16 (.addr (.t 1) 3),Ob 17 (.load (.t 16) none),Ob 18 (.len (.t 17)),Ob 19 (.bin .lss (.t 15) (.t 18))])
 (.cond (.t 19) (.skip)
 (.exit 0)))
 (.seq (.block 1 (.region [Ob 22 (.mov (.t 3)),Ob 23 (.addr (.t 1) 3),Ob 24 (.load (.t 23) none),Ob 25 (.mov (.t 5)),Ob 26 (.idx (.t 24) (.t 25) 6),Ob 27 (.load (.t 26) (some 6)),Ob 28 (.call 26 [(.t 27)]),Ob 29 (.bin .add (.t 22) (.t 28)),Ob 3 (.mov (.t 29))]))
 (.region [Ob 20 (.mov (.t 5)),Ob 21 (.bin .add (.t 20) (Ci 1)),Ob 5 (.mov (.t 21))]))))))
 (.seq (.seq (.region [Ob 6 (.mov (Ci 0))])
 (.block 2 (.loop (.seq (.seq (.region [Ob 30 (.mov (.t 6)),Ob 31 (.addr (.t 1) 1),Ob 32 (.load (.t 31) none),Ob 33 (.len (.t 32)),Ob 34 (.bin .lss (.t 30) (.t 33))])
 (.cond (.t 34) (.skip)
 (.exit 2)))
 (.seq (.block 3 (.region [Ob 37 (.mov (.t 4)),Ob 38 (.addr (.t 1) 1),Ob 39 (.load (.t 38) none),Ob 40 (.mov (.t 6)),Ob 41 (.idx (.t 39) (.t 40) 1),Ob 42 (.load (.t 41) none),Ob 43 (.bin .add (.t 37) (.t 42)),Ob 4 (.mov (.t 43))]))
 (.region [Ob 35 (.mov (.t 6)),Ob 36 (.bin .add (.t 35) (Ci 1)),Ob 6 (.mov (.t 36))]))))))
 (.seq (.region [Ob 45 (.load (.t 1) (some 4)),Ob 46 (.call 15 [(.t 45)]),Ob 44 (.mov (.t 46)),Ob 47 (.ext (.t 44) 0),Ob 48 (.ext (.t 44) 1),Ob 7 (.mov (.t 47)),Ob 8 (.mov (.t 48))])
 (.seq (.region [Ob 50 (.load (.t 1) (some 4)),Ob 51 (.call 27 [(.t 50)]),Ob 49 (.mov (.t 51)),Ob 52 (.ext (.t 49) 0),Ob 53 (.ext (.t 49) 1),Ob 9 (.mov (.t 52)),Ob 10 (.mov (.t 53))])
 (.seq (.region [Ob 54 (.mov (.t 8)),Ob 55 (.mov (.t 10)),Ob 56 (.bin .eql (.t 54) (.t 55)),Ob 57 (.mov (.t 56)),Og 58 57 true (.mov (.t 8)),Og 59 57 true (.bin .eql (.t 58) (Ci 0)),Og 60 57 true (.mov (.t 59)),Og 61 60 false (.mov (.t 8)),Og 62 60 false (.bin .eql (.t 61) (Ci 3)),Og 63 57 true (.pick (.t 60) (.c (.bool true)) (.t 62)),Ob 64 (.pick (.t 57) (.t 63) (.c (.bool false))),Ob 65 (.mov (.t 64)),Og 66 65 true (.mov (.t 8)),Og 67 65 true (.bin .eql (.t 66) (Ci 0)),Og 68 65 true (.mov (.t 3)),Og 69 65 true (.mov (.t 4)),Og 70 65 true (.bin .eql (.t 68) (.t 69)),Og 71 65 true (.eqv false false [.b] (.t 67) (.t 70)),Ob 72 (.pick (.t 65) (.t 71) (.c (.bool false))),Ob 73 (.mov (.t 72)),Og 74 73 true (.mov (.t 9)),Og 75 73 true (.len (.t 74)),Og 76 73 true (.bin .gtr (.t 75) (Ci 0)),Og 77 73 true (.mov (.t 8)),Og 78 73 true (.bin .eql (.t 77) (Ci 0)),Og 79 73 true (.eqv false false [.b] (.t 76) (.t 78)),Ob 80 (.pick (.t 73) (.t 79) (.c (.bool false))),Ob 81 (.mov (.t 80)),Og 82 81 true (.call 13 []),Ob 83 (.pick (.t 81) (.t 82) (.c (.bool false))),Ob 2 (.mov (.t 83))])
 (.ret))))))))
def r5 : List Res := [.t 2]
def a5 : AFn := ⟨1, c5, r5,.v⟩

def c6 : ACode := .seq (.region [Ob 1 (.box (.t 0) 4),Ob 2 (.mov (.c (.bool false)))])
 (.seq (.seq (.region [Ob 13 (.load (.t 1) (some 4)),Ob 14 (.call 12 [(.t 13)]),Ob 15 (.not (.t 14))])
 (.cond (.t 15) (.seq (.region [Ob 16 (.call 13 []),Ob 2 (.mov (.t 16))])
 (.ret))
 (.skip)))
 (.seq (.region [Ob 18 (.load (.t 1) (some 4)),Ob 19 (.call 27 [(.t 18)]),Ob 17 (.mov (.t 19)),Ob 20 (.ext (.t 17) 0),Ob 21 (.ext (.t 17) 1),Ob 3 (.mov (.t 20)),Ob 4 (.mov (.t 21))])
 (.seq (.region [Ob 23 (.load (.t 1) (some 4)),Ob 24 (.call 15 [(.t 23)]),Ob 22 (.mov (.t 24)),Ob 25 (.ext (.t 22) 0),Ob 26 (.ext (.t 22) 1),Ob 5 (.mov (.t 25)),Ob 6 (.mov (.t 26))])
 (.seq (.region [Ob 28 (.load (.t 1) (some 4)),Ob 29 (.call 21 [(.t 28)]),Ob 27 (.mov (.t 29)),Ob 30 (.ext (.t 27) 0),Ob 31 (.ext (.t 27) 1),Ob 7 (.mov (.t 30)),Ob 8 (.mov (.t 31))])
 (.seq (.seq (.region [Ob 32 (.mov (.t 4)),Ob 33 (.mov (.t 6)),Ob 34 (.bin .neq (.t 32) (.t 33)),Ob 35 (.mov (.t 34)),Og 36 35 false (.mov (.t 4)),Og 37 35 false (.mov (.t 8)),Og 38 35 false (.bin .neq (.t 36) (.t 37)),Ob 39 (.pick (.t 35) (.c (.bool true)) (.t 38)),Ob 40 (.mov (.t 39)),Og 41 40 false (.mov (.t 4)),Og 42 40 false (.bin .neq (.t 41) (Ci 0)),Og 43 40 false (.mov (.t 42)),Og 44 43 true (.mov (.t 4)),Og 45 43 true (.bin .neq (.t 44) (Ci 3)),Og 46 40 false (.pick (.t 43) (.t 45) (.c (.bool false))),Ob 47 (.pick (.t 40) (.c (.bool true)) (.t 46))])
 (.cond (.t 47) (.seq (.region [Ob 2 (.mov (.c (.bool false)))])
 (.ret))
 (.skip)))
 (.seq (.seq (.region [Ob 48 (.mov (.t 4)),Ob 49 (.bin .neq (.t 48) (Ci 0))])
 (.cond (.t 49) (.seq (.region [Ob 50 (.call 13 []),Ob 2 (.mov (.t 50))])
 (.ret))
 (.skip)))
 (.seq (.seq (.region [Ob 51 (.load (.t 1) (some 4)),Ob 52 (.mov (.t 3)),Ob 53 (.call 18 [(.t 51), (.t 52)]),Ob 54 (.not (.t 53)),Ob 55 (.mov (.t 54)),Og 56 55 false (.load (.t 1) (some 4)),Og 57 55 false (.mov (.t 3)),Og 58 55 false (.call 20 [(.t 56), (.t 57)]),Og 59 55 false (.mov (.t 5)),Og 60 55 false (.bin .neq (.t 58) (.t 59)),Ob 61 (.pick (.t 55) (.c (.bool true)) (.t 60)),Ob 62 (.mov (.t 61)),Og 63 62 false (.mov (.t 7)),Og 64 62 false (.len (.t 63)),Og 65 62 false (.mov (.t 5)),Og 66 62 false (.bin .gtr (.t 64) (.t 65)),Ob 67 (.pick (.t 62) (.c (.bool true)) (.t 66))])
 (.cond (.t 67) (.seq (.region [Ob 2 (.mov (.c (.bool false)))])
 (.ret))
 (.skip)))
 (.seq (.seq (.region [Ob 9 (.mov (Ci 0))])
 (.block 0 (.loop (.seq (.seq (.region [Ob 68 (.mov (.t 9)),Ob 69 (.addr (.t 1) 3),Ob 70 (.load (.t 69) none),Ob 71 (.len (.t 70)),Ob 72 (.bin .lss (.t 68) (.t 71))])
 (.cond (.t 72) (.skip)
 (.exit 0)))
 (.seq (.block 1 (.seq (.region [Ob 10 (.mov (Ci 0))])
 (.block 2 (.loop (.seq (.seq (.region [Ob 75 (.mov (.t 10)),Ob 76 (.addr (.t 1) 0),Ob 77 (.load (.t 76) none),Ob 78 (.len (.t 77)),Ob 79 (.bin .lss (.t 75) (.t 78))])
 (.cond (.t 79) (.skip)
 (.exit 2)))
 (.seq (.block 3 (.seq (.region [Ob 83 (.load (.t 1) (some 4)),Ob 84 (.mov (.t 9)),Ob 85 (.mov (.t 10)),Ob 86 (.call 16 [(.t 83), (.t 84), (.t 85)]),Ob 82 (.mov (.t 86)),Ob 87 (.ext (.t 82) 0),Ob 88 (.ext (.t 82) 1),Ob 11 (.new (.agg [(.int .i64 0), (.int .i64 0)]) 2),On (.store (.t 11) (.t 87) 2),Ob 12 (.mov (.t 88))])
 (.seq (.region [Ob 89 (.mov (.t 12)),Ob 90 (.bin .neq (.t 89) (Ci 0)),Ob 91 (.mov (.t 90)),Og 92 91 false (.mov (.t 3)),Og 93 91 false (.mov (.t 9)),Og 94 91 false (.idx (.t 92) (.t 93) 1),Og 95 91 false (.load (.t 94) none),Og 96 91 false (.mov (.t 10)),Og 97 91 false (.idx (.t 95) (.t 96) 1),Og 98 91 false (.load (.t 97) none),Og 99 91 false (.addr (.t 11) 0),Og 100 91 false (.load (.t 99) none),Og 101 91 false (.bin .lss (.t 98) (.t 100)),Ob 102 (.pick (.t 91) (.c (.bool true)) (.t 101)),Ob 103 (.mov (.t 102)),Og 104 103 false (.mov (.t 3)),Og 105 103 false (.mov (.t 9)),Og 106 103 false (.idx (.t 104) (.t 105) 1),Og 107 103 false (.load (.t 106) none),Og 108 103 false (.mov (.t 10)),Og 109 103 false (.idx (.t 107) (.t 108) 1),Og 110 103 false (.load (.t 109) none),Og 111 103 false (.addr (.t 11) 1),Og 112 103 false (.load (.t 111) none),Og 113 103 false (.bin .gtr (.t 110) (.t 112)),Ob 114 (.pick (.t 103) (.c (.bool true)) (.t 113)),Ob 115 (.mov (.t 114)),Og 116 115 false (.addr (.t 11) 0),Og 117 115 false (.load (.t 116) none),Og 118 115 false (.bin .lss (.t 117) (Ci 0)),Ob 119 (.pick (.t 115) (.c (.bool true)) (.t 118)),Ob 120 (.mov (.t 119)),Og 121 120 false (.addr (.t 11) 1),Og 122 120 false (.load (.t 121) none),Og 123 120 false (.addr (.t 1) 1),Og 124 120 false (.load (.t 123) none),Og 125 120 false (.mov (.t 10)),Og 126 120 false (.idx (.t 124) (.t 125) 1),Og 127 120 false (.load (.t 126) none),Og 128 120 false (.addr (.t 1) 3),Og 129 120 false (.load (.t 128) none),Og 130 120 false (.mov (.t 9)),Og 131 120 false (.idx (.t 129) (.t 130) 6),Og 132 120 false (.load (.t 131) (some 6)),Og 133 120 false (.call 26 [(.t 132)]),Og 134 120 false (.mnx false (.t 127) (.t 133)),Og 135 120 false (.bin .gtr (.t 122) (.t 134)),Ob 136 (.pick (.t 120) (.c (.bool true)) (.t 135))])
 (.cond (.t 136) (.seq (.region [Ob 2 (.mov (.c (.bool false)))])
 (.ret))
 (.skip)))))
 (.region [Ob 80 (.mov (.t 10)),Ob 81 (.bin .add (.t 80) (Ci 1)),Ob 10 (.mov (.t 81))])))))))
 (.region [Ob 73 (.mov (.t 9)),Ob 74 (.bin .add (.t 73) (Ci 1)),Ob 9 (.mov (.t 74))]))))))
 (.seq (.region [Ob 137 (.call 13 []),Ob 2 (.mov (.t 137))])
 (.ret))))))))))
def r6 : List Res := [.t 2]
def a6 : AFn := ⟨1, c6, r6,.v⟩

def c7 : ACode := .seq (.region [Ob 2 (.box (.t 0) 4),Ob 4 (.mov (.c (.bool false)))])
 (.seq (.seq (.region [Ob 12 (.load (.t 2) (some 4)),Ob 13 (.call 12 [(.t 12)]),Ob 14 (.not (.t 13)),Ob 15 (.mov (.t 14)),Og 16 15 false (.mov (.t 1)),Og 17 15 false (.bin .lss (.t 16) (Ci 0)),Ob 18 (.pick (.t 15) (.c (.bool true)) (.t 17)),Ob 19 (.mov (.t 18)),Og 20 19 false (.mov (.t 1)),Og 21 19 false (.addr (.t 2) 3),Og 22 19 false (.load (.t 21) none),Og 23 19 false (.len (.t 22)),Og 24 19 false (.bin .geq (.t 20) (.t 23)),Ob 25 (.pick (.t 19) (.c (.bool true)) (.t 24))])
 (.cond (.t 25) (.seq (.region [Ob 26 (.call 13 []),Ob 4 (.mov (.t 26))])
 (.ret))
 (.skip)))
 (.seq (.region [Ob 28 (.load (.t 2) (some 4)),Ob 29 (.call 27 [(.t 28)]),Ob 27 (.mov (.t 29)),Ob 30 (.ext (.t 27) 0),Ob 31 (.ext (.t 27) 1),Ob 5 (.mov (.t 30)),Ob 6 (.mov (.t 31))])
 (.seq (.seq (.region [Ob 32 (.mov (.t 6)),Ob 33 (.bin .neq (.t 32) (Ci 0))])
 (.cond (.t 33) (.seq (.region [Ob 34 (.mov (.t 6)),Ob 35 (.bin .eql (.t 34) (Ci 3)),Ob 36 (.mov (.t 35)),Og 37 36 true (.call 13 []),Ob 38 (.pick (.t 36) (.t 37) (.c (.bool false))),Ob 4 (.mov (.t 38))])
 (.ret))
 (.skip)))
 (.seq (.region [Ob 40 (.load (.t 2) (some 4)),Ob 41 (.call 15 [(.t 40)]),Ob 39 (.mov (.t 41)),Ob 42 (.ext (.t 39) 0),Ob 43 (.ext (.t 39) 1),Ob 7 (.mov (.t 42)),Ob 8 (.mov (.t 43))])
 (.seq (.seq (.region [Ob 44 (.mov (.t 8)),Ob 45 (.bin .neq (.t 44) (Ci 0)),Ob 46 (.mov (.t 45)),Og 47 46 false (.load (.t 2) (some 4)),Og 48 46 false (.mov (.t 5)),Og 49 46 false (.call 18 [(.t 47), (.t 48)]),Og 50 46 false (.not (.t 49)),Ob 51 (.pick (.t 46) (.c (.bool true)) (.t 50))])
 (.cond (.t 51) (.seq (.region [Ob 4 (.mov (.c (.bool false)))])
 (.ret))
 (.skip)))
 (.seq (.region [Ob 52 (.load (.t 2) (some 4)),Ob 53 (.call 28 [(.t 52)]),Ob 9 (.new (.agg [(.sl [] .tight), (.sl [] .tight), (.sl [] .tight), (.sl [] .tight)]) 4),On (.store (.t 9) (.t 53) 4)])
 (.seq (.regionD [Ob 54 (.addr (.t 9) 3),Ob 55 (.load (.t 54) none),Ob 56 (.mov (.t 1)),Ob 57 (.lit false 3 1 []),Ob 58 (.mov (.t 5)),Ob 59 (.mov (.t 1)),Ob 60 (.idx (.t 58) (.t 59) 1),Ob 61 (.load (.t 60) none),Ob 62 (.app false (.t 57) (.t 61) 3 1 8),Ob 63 (.idx (.t 55) (.t 56) 6),Ob 64 (.addr (.t 63) 0),On (.store (.t 64) (.t 62) 1)] [(9, 57), (54, 57)])
 (.seq (.region [Ob 65 (.addr (.t 9) 3),Ob 66 (.load (.t 65) none),Ob 67 (.mov (.t 1)),Ob 68 (.load (.t 2) (some 4)),Ob 69 (.mov (.t 1)),Ob 70 (.mov (.t 5)),Ob 71 (.mov (.t 1)),Ob 72 (.idx (.t 70) (.t 71) 1),Ob 73 (.load (.t 72) none),Ob 74 (.call 25 [(.t 68), (.t 69), (.t 73)]),Ob 75 (.idx (.t 66) (.t 67) 6),Ob 76 (.addr (.t 75) 5),On (.store (.t 76) (.t 74) 1)])
 (.seq (.seq (.region [Ob 77 (.load (.t 9) (some 4)),Ob 78 (.call 29 [(.t 77)]),Ob 79 (.bin .neq (.t 78) (Ci 0))])
 (.cond (.t 79) (.seq (.region [Ob 80 (.call 13 []),Ob 4 (.mov (.t 80))])
 (.ret))
 (.skip)))
 (.seq (.region [Ob 82 (.load (.t 9) (some 4)),Ob 83 (.call 15 [(.t 82)]),Ob 81 (.mov (.t 83)),Ob 84 (.ext (.t 81) 0),Ob 85 (.ext (.t 81) 1),Ob 10 (.mov (.t 84)),Ob 11 (.mov (.t 85))])
 (.seq (.region [Ob 86 (.mov (.t 11)),Ob 87 (.bin .eql (.t 86) (Ci 0)),Ob 88 (.mov (.t 87)),Og 89 88 true (.mov (.t 10)),Og 90 88 true (.mov (.t 7)),Og 91 88 true (.load (.t 2) (some 4)),Og 92 88 true (.mov (.t 1)),Og 93 88 true (.mov (.t 5)),Og 94 88 true (.mov (.t 1)),Og 95 88 true (.idx (.t 93) (.t 94) 1),Og 96 88 true (.load (.t 95) none),Og 97 88 true (.call 22 [(.t 91), (.t 92), (.t 96)]),Og 98 88 true (.bin .sub (.t 90) (.t 97)),Og 99 88 true (.bin .eql (.t 89) (.t 98)),Ob 100 (.pick (.t 88) (.t 99) (.c (.bool false))),Ob 101 (.mov (.t 100)),Og 102 101 true (.call 13 []),Ob 103 (.pick (.t 101) (.t 102) (.c (.bool false))),Ob 4 (.mov (.t 103))])
 (.ret))))))))))))
def r7 : List Res := [.t 4]
def a7 : AFn := ⟨2, c7, r7,.v⟩

def c8 : ACode := .seq (.region [Ob 2 (.box (.t 0) 4),Ob 4 (.mov (.c (.bool false)))])
 (.seq (.seq (.region [Ob 24 (.load (.t 2) (some 4)),Ob 25 (.call 12 [(.t 24)]),Ob 26 (.not (.t 25)),Ob 27 (.mov (.t 26)),Og 28 27 false (.mov (.t 1)),Og 29 27 false (.bin .lss (.t 28) (Ci 0)),Ob 30 (.pick (.t 27) (.c (.bool true)) (.t 29)),Ob 31 (.mov (.t 30)),Og 32 31 false (.mov (.t 1)),Og 33 31 false (.addr (.t 2) 3),Og 34 31 false (.load (.t 33) none),Og 35 31 false (.len (.t 34)),Og 36 31 false (.bin .geq (.t 32) (.t 35)),Ob 37 (.pick (.t 31) (.c (.bool true)) (.t 36))])
 (.cond (.t 37) (.seq (.region [Ob 38 (.call 13 []),Ob 4 (.mov (.t 38))])
 (.ret))
 (.skip)))
 (.seq (.region [Ob 39 (.load (.t 2) (some 4)),Ob 40 (.call 28 [(.t 39)]),Ob 5 (.new (.agg [(.sl [] .tight), (.sl [] .tight), (.sl [] .tight), (.sl [] .tight)]) 4),On (.store (.t 5) (.t 40) 4)])
 (.seq (.region [Ob 41 (.addr (.t 5) 3),Ob 42 (.load (.t 41) none),Ob 43 (.mov (.t 1)),Ob 44 (.slice (.t 42) (some (.t 43)) none 6),Ob 45 (.addr (.t 5) 3),Ob 46 (.load (.t 45) none),Ob 47 (.mov (.t 1)),Ob 48 (.slice (.t 46) none (some (.t 47)) 6),Ob 49 (.app false (.t 44) (.t 48) 40 6 64),Ob 50 (.addr (.t 5) 3),On (.store (.t 50) (.t 49) 1)])
 (.seq (.region [Ob 52 (.load (.t 2) (some 4)),Ob 53 (.call 15 [(.t 52)]),Ob 51 (.mov (.t 53)),Ob 54 (.ext (.t 51) 0),Ob 55 (.ext (.t 51) 1),Ob 6 (.mov (.t 54)),Ob 7 (.mov (.t 55))])
 (.seq (.region [Ob 57 (.load (.t 5) (some 4)),Ob 58 (.call 15 [(.t 57)]),Ob 56 (.mov (.t 58)),Ob 59 (.ext (.t 56) 0),Ob 60 (.ext (.t 56) 1),Ob 8 (.mov (.t 59)),Ob 9 (.mov (.t 60))])
 (.seq (.region [Ob 62 (.load (.t 2) (some 4)),Ob 63 (.call 21 [(.t 62)]),Ob 61 (.mov (.t 63)),Ob 64 (.ext (.t 61) 0),Ob 65 (.ext (.t 61) 1),Ob 10 (.mov (.t 64)),Ob 11 (.mov (.t 65))])
 (.seq (.region [Ob 67 (.load (.t 5) (some 4)),Ob 68 (.call 21 [(.t 67)]),Ob 66 (.mov (.t 68)),Ob 69 (.ext (.t 66) 0),Ob 70 (.ext (.t 66) 1),Ob 12 (.mov (.t 69)),Ob 13 (.mov (.t 70))])
 (.seq (.region [Ob 72 (.load (.t 2) (some 4)),Ob 73 (.call 17 [(.t 72)]),Ob 71 (.mov (.t 73)),Ob 74 (.ext (.t 71) 0),Ob 75 (.ext (.t 71) 1),Ob 14 (.mov (.t 74)),Ob 15 (.mov (.t 75))])
 (.seq (.region [Ob 77 (.load (.t 5) (some 4)),Ob 78 (.call 17 [(.t 77)]),Ob 76 (.mov (.t 78)),Ob 79 (.ext (.t 76) 0),Ob 80 (.ext (.t 76) 1),Ob 16 (.mov (.t 79)),Ob 17 (.mov (.t 80))])
 (.seq (.seq (.region [Ob 81 (.mov (.t 6)),Ob 82 (.mov (.t 8)),Ob 83 (.bin .neq (.t 81) (.t 82)),Ob 84 (.mov (.t 83)),Og 85 84 false (.mov (.t 7)),Og 86 84 false (.mov (.t 9)),Og 87 84 false (.bin .neq (.t 85) (.t 86)),Ob 88 (.pick (.t 84) (.c (.bool true)) (.t 87)),Ob 89 (.mov (.t 88)),Og 90 89 false (.mov (.t 7)),Og 91 89 false (.mov (.t 11)),Og 92 89 false (.bin .neq (.t 90) (.t 91)),Ob 93 (.pick (.t 89) (.c (.bool true)) (.t 92)),Ob 94 (.mov (.t 93)),Og 95 94 false (.mov (.t 7)),Og 96 94 false (.mov (.t 13)),Og 97 94 false (.bin .neq (.t 95) (.t 96)),Ob 98 (.pick (.t 94) (.c (.bool true)) (.t 97)),Ob 99 (.mov (.t 98)),Og 100 99 false (.mov (.t 7)),Og 101 99 false (.mov (.t 15)),Og 102 99 false (.bin .neq (.t 100) (.t 101)),Ob 103 (.pick (.t 99) (.c (.bool true)) (.t 102)),Ob 104 (.mov (.t 103)),Og 105 104 false (.mov (.t 7)),Og 106 104 false (.mov (.t 17)),Og 107 104 false (.bin .neq (.t 105) (.t 106)),Ob 108 (.pick (.t 104) (.c (.bool true)) (.t 107)),Ob 109 (.mov (.t 108)),Og 110 109 false (.mov (.t 10)),Og 111 109 false (.len (.t 110)),Og 112 109 false (.mov (.t 12)),Og 113 109 false (.len (.t 112)),Og 114 109 false (.bin .neq (.t 111) (.t 113)),Ob 115 (.pick (.t 109) (.c (.bool true)) (.t 114)),Ob 116 (.mov (.t 115)),Og 117 116 false (.mov (.t 14)),Og 118 116 false (.len (.t 117)),Og 119 116 false (.mov (.t 16)),Og 120 116 false (.len (.t 119)),Og 121 116 false (.bin .neq (.t 118) (.t 120)),Ob 122 (.pick (.t 116) (.c (.bool true)) (.t 121))])
 (.cond (.t 122) (.seq (.region [Ob 4 (.mov (.c (.bool false)))])
 (.ret))
 (.skip)))
 (.seq (.seq (.region [Ob 18 (.mov (Ci 0))])
 (.block 0 (.loop (.seq (.seq (.region [Ob 123 (.mov (.t 18)),Ob 124 (.addr (.t 2) 3),Ob 125 (.load (.t 124) none),Ob 126 (.len (.t 125)),Ob 127 (.bin .lss (.t 123) (.t 126))])
 (.cond (.t 127) (.skip)
 (.exit 0)))
 (.seq (.block 1 (.seq (.region [Ob 130 (.mov (.t 18)),Ob 131 (.addr (.t 2) 3),Ob 132 (.load (.t 131) none),Ob 133 (.len (.t 132)),Ob 134 (.bin .add (.t 130) (.t 133)),Ob 135 (.mov (.t 1)),Ob 136 (.bin .sub (.t 134) (.t 135)),Ob 137 (.addr (.t 2) 3),Ob 138 (.load (.t 137) none),Ob 139 (.len (.t 138)),Ob 140 (.bin .rem (.t 136) (.t 139)),Ob 19 (.mov (.t 140))])
 (.seq (.region [Ob 142 (.load (.t 2) (some 4)),Ob 143 (.mov (.t 18)),Ob 144 (.call 24 [(.t 142), (.t 143)]),Ob 141 (.mov (.t 144)),Ob 145 (.ext (.t 141) 0),Ob 146 (.ext (.t 141) 1),Ob 20 (.new (.agg [(.int .i64 0), (.int .i64 0)]) 2),On (.store (.t 20) (.t 145) 2),Ob 21 (.mov (.t 146))])
 (.seq (.region [Ob 148 (.load (.t 5) (some 4)),Ob 149 (.mov (.t 19)),Ob 150 (.call 24 [(.t 148), (.t 149)]),Ob 147 (.mov (.t 150)),Ob 151 (.ext (.t 147) 0),Ob 152 (.ext (.t 147) 1),Ob 22 (.new (.agg [(.int .i64 0), (.int .i64 0)]) 2),On (.store (.t 22) (.t 151) 2),Ob 23 (.mov (.t 152))])
 (.seq (.region [Ob 153 (.mov (.t 10)),Ob 154 (.mov (.t 18)),Ob 155 (.call 23 [(.t 153), (.t 154)]),Ob 156 (.mov (.t 12)),Ob 157 (.mov (.t 19)),Ob 158 (.call 23 [(.t 156), (.t 157)]),Ob 159 (.eqv true false [.b] (.t 155) (.t 158)),Ob 160 (.mov (.t 159)),Og 161 160 false (.mov (.t 14)),Og 162 160 false (.mov (.t 18)),Og 163 160 false (.call 23 [(.t 161), (.t 162)]),Og 164 160 false (.mov (.t 16)),Og 165 160 false (.mov (.t 19)),Og 166 160 false (.call 23 [(.t 164), (.t 165)]),Og 167 160 false (.eqv true false [.b] (.t 163) (.t 166)),Ob 168 (.pick (.t 160) (.c (.bool true)) (.t 167)),Ob 169 (.mov (.t 168)),Og 170 169 false (.load (.t 20) (some 2)),Og 171 169 false (.load (.t 22) (some 2)),Og 172 169 false (.eqv true true [.i,.i] (.t 170) (.t 171)),Ob 173 (.pick (.t 169) (.c (.bool true)) (.t 172)),Ob 174 (.mov (.t 173)),Og 175 174 false (.mov (.t 21)),Og 176 174 false (.mov (.t 23)),Og 177 174 false (.bin .neq (.t 175) (.t 176)),Ob 178 (.pick (.t 174) (.c (.bool true)) (.t 177))])
 (.cond (.t 178) (.seq (.region [Ob 4 (.mov (.c (.bool false)))])
 (.ret))
 (.skip)))))))
 (.region [Ob 128 (.mov (.t 18)),Ob 129 (.bin .add (.t 128) (Ci 1)),Ob 18 (.mov (.t 129))]))))))
 (.seq (.region [Ob 179 (.call 13 []),Ob 4 (.mov (.t 179))])
 (.ret)))))))))))))
def r8 : List Res := [.t 4]
def a8 : AFn := ⟨2, c8, r8,.v⟩

def c9 : ACode := .seq (.region [Ob 1 (.box (.t 0) 4),Ob 2 (.mov (.c (.bool false)))])
 (.seq (.seq (.region [Ob 14 (.load (.t 1) (some 4)),Ob 15 (.call 30 [(.t 14)])])
 (.cond (.t 15) (.seq (.region [Ob 16 (.call 13 []),Ob 2 (.mov (.t 16))])
 (.ret))
 (.skip)))
 (.seq (.region [Ob 17 (.load (.t 1) (some 4)),Ob 18 (.call 28 [(.t 17)]),Ob 3 (.new (.agg [(.sl [] .tight), (.sl [] .tight), (.sl [] .tight), (.sl [] .tight)]) 4),On (.store (.t 3) (.t 18) 4)])
 (.seq (.seq (.region [Ob 19 (.load (.t 3) (some 4)),Ob 20 (.call 31 [(.t 19)]),Ob 21 (.load (.t 1) (some 4)),Ob 22 (.call 29 [(.t 21)]),Ob 23 (.bin .neq (.t 20) (.t 22))])
 (.cond (.t 23) (.seq (.region [Ob 2 (.mov (.c (.bool false)))])
 (.ret))
 (.skip)))
 (.seq (.region [Ob 25 (.load (.t 3) (some 4)),Ob 26 (.call 14 [(.t 25)]),Ob 24 (.mov (.t 26)),Ob 27 (.ext (.t 24) 0),Ob 28 (.ext (.t 24) 1),Ob 29 (.ext (.t 24) 2),Ob 4 (.mov (.t 27)),Ob 5 (.mov (.t 28)),Ob 6 (.mov (.t 29))])
 (.seq (.region [Ob 31 (.load (.t 1) (some 4)),Ob 32 (.call 32 [(.t 31)]),Ob 30 (.mov (.t 32)),Ob 33 (.ext (.t 30) 0),Ob 34 (.ext (.t 30) 1),Ob 35 (.ext (.t 30) 2),Ob 7 (.mov (.t 33)),Ob 8 (.mov (.t 34)),Ob 9 (.mov (.t 35))])
 (.seq (.region [Ob 37 (.load (.t 3) (some 4)),Ob 38 (.call 33 [(.t 37)]),Ob 36 (.mov (.t 38)),Ob 39 (.ext (.t 36) 0),Ob 40 (.ext (.t 36) 1),Ob 10 (.mov (.t 39)),Ob 11 (.mov (.t 40))])
 (.seq (.region [Ob 42 (.load (.t 1) (some 4)),Ob 43 (.call 34 [(.t 42)]),Ob 41 (.mov (.t 43)),Ob 44 (.ext (.t 41) 0),Ob 45 (.ext (.t 41) 1),Ob 12 (.mov (.t 44)),Ob 13 (.mov (.t 45))])
 (.seq (.region [Ob 46 (.mov (.t 4)),Ob 47 (.mov (.t 7)),Ob 48 (.bin .eql (.t 46) (.t 47)),Ob 49 (.mov (.t 48)),Og 50 49 true (.mov (.t 5)),Og 51 49 true (.mov (.t 8)),Og 52 49 true (.bin .eql (.t 50) (.t 51)),Ob 53 (.pick (.t 49) (.t 52) (.c (.bool false))),Ob 54 (.mov (.t 53)),Og 55 54 true (.mov (.t 6)),Og 56 54 true (.mov (.t 9)),Og 57 54 true (.bin .eql (.t 55) (.t 56)),Ob 58 (.pick (.t 54) (.t 57) (.c (.bool false))),Ob 59 (.mov (.t 58)),Og 60 59 true (.mov (.t 10)),Og 61 59 true (.mov (.t 12)),Og 62 59 true (.call 35 [(.t 60), (.t 61)]),Ob 63 (.pick (.t 59) (.t 62) (.c (.bool false))),Ob 64 (.mov (.t 63)),Og 65 64 true (.mov (.t 11)),Og 66 64 true (.mov (.t 13)),Og 67 64 true (.bin .eql (.t 65) (.t 66)),Ob 68 (.pick (.t 64) (.t 67) (.c (.bool false))),Ob 69 (.mov (.t 68)),Og 70 69 true (.load (.t 3) (some 4)),Og 71 69 true (.load (.t 1) (some 4)),Og 72 69 true (.call 36 [(.t 70), (.t 71)]),Ob 73 (.pick (.t 69) (.t 72) (.c (.bool false))),Ob 74 (.mov (.t 73)),Og 75 74 true (.call 13 []),Ob 76 (.pick (.t 74) (.t 75) (.c (.bool false))),Ob 2 (.mov (.t 76))])
 (.ret)))))))))
def r9 : List Res := [.t 2]
def a9 : AFn := ⟨1, c9, r9,.v⟩

def c10 : ACode := .seq (.region [Ob 1 (.box (.t 0) 4),Ob 2 (.mov (.c (.bool false)))])
 (.seq (.seq (.region [Ob 16 (.load (.t 1) (some 4)),Ob 17 (.call 30 [(.t 16)])])
 (.cond (.t 17) (.seq (.region [Ob 18 (.call 13 []),Ob 2 (.mov (.t 18))])
 (.ret))
 (.skip)))
 (.seq (.region [Ob 19 (.load (.t 1) (some 4)),Ob 20 (.call 28 [(.t 19)]),Ob 3 (.new (.agg [(.sl [] .tight), (.sl [] .tight), (.sl [] .tight), (.sl [] .tight)]) 4),On (.store (.t 3) (.t 20) 4)])
 (.seq (.region [Ob 22 (.load (.t 3) (some 4)),Ob 23 (.call 15 [(.t 22)]),Ob 21 (.mov (.t 23)),Ob 24 (.ext (.t 21) 0),Ob 25 (.ext (.t 21) 1),Ob 4 (.mov (.t 24)),Ob 5 (.mov (.t 25))])
 (.seq (.region [Ob 27 (.load (.t 1) (some 4)),Ob 28 (.call 37 [(.t 27)]),Ob 26 (.mov (.t 28)),Ob 29 (.ext (.t 26) 0),Ob 30 (.ext (.t 26) 1),Ob 6 (.mov (.t 29)),Ob 7 (.mov (.t 30))])
 (.seq (.region [Ob 32 (.load (.t 3) (some 4)),Ob 33 (.call 21 [(.t 32)]),Ob 31 (.mov (.t 33)),Ob 34 (.ext (.t 31) 0),Ob 35 (.ext (.t 31) 1),Ob 8 (.mov (.t 34)),Ob 9 (.mov (.t 35))])
 (.seq (.region [Ob 37 (.load (.t 1) (some 4)),Ob 38 (.call 38 [(.t 37)]),Ob 36 (.mov (.t 38)),Ob 39 (.ext (.t 36) 0),Ob 40 (.ext (.t 36) 1),Ob 10 (.mov (.t 39)),Ob 11 (.mov (.t 40))])
 (.seq (.region [Ob 42 (.load (.t 3) (some 4)),Ob 43 (.call 17 [(.t 42)]),Ob 41 (.mov (.t 43)),Ob 44 (.ext (.t 41) 0),Ob 45 (.ext (.t 41) 1),Ob 12 (.mov (.t 44)),Ob 13 (.mov (.t 45))])
 (.seq (.region [Ob 47 (.load (.t 1) (some 4)),Ob 48 (.call 39 [(.t 47)]),Ob 46 (.mov (.t 48)),Ob 49 (.ext (.t 46) 0),Ob 50 (.ext (.t 46) 1),Ob 14 (.mov (.t 49)),Ob 15 (.mov (.t 50))])
 (.seq (.region [Ob 51 (.mov (.t 4)),Ob 52 (.mov (.t 6)),Ob 53 (.bin .eql (.t 51) (.t 52)),Ob 54 (.mov (.t 53)),Og 55 54 true (.mov (.t 5)),Og 56 54 true (.mov (.t 7)),Og 57 54 true (.bin .eql (.t 55) (.t 56)),Ob 58 (.pick (.t 54) (.t 57) (.c (.bool false))),Ob 59 (.mov (.t 58)),Og 60 59 true (.mov (.t 8)),Og 61 59 true (.mov (.t 10)),Og 62 59 true (.call 35 [(.t 60), (.t 61)]),Ob 63 (.pick (.t 59) (.t 62) (.c (.bool false))),Ob 64 (.mov (.t 63)),Og 65 64 true (.mov (.t 9)),Og 66 64 true (.mov (.t 11)),Og 67 64 true (.bin .eql (.t 65) (.t 66)),Ob 68 (.pick (.t 64) (.t 67) (.c (.bool false))),Ob 69 (.mov (.t 68)),Og 70 69 true (.mov (.t 12)),Og 71 69 true (.mov (.t 14)),Og 72 69 true (.call 35 [(.t 70), (.t 71)]),Ob 73 (.pick (.t 69) (.t 72) (.c (.bool false))),Ob 74 (.mov (.t 73)),Og 75 74 true (.mov (.t 13)),Og 76 74 true (.mov (.t 15)),Og 77 74 true (.bin .eql (.t 75) (.t 76)),Ob 78 (.pick (.t 74) (.t 77) (.c (.bool false))),Ob 79 (.mov (.t 78)),Og 80 79 true (.load (.t 3) (some 4)),Og 81 79 true (.load (.t 1) (some 4)),Og 82 79 true (.call 36 [(.t 80), (.t 81)]),Ob 83 (.pick (.t 79) (.t 82) (.c (.bool false))),Ob 84 (.mov (.t 83)),Og 85 84 true (.call 13 []),Ob 86 (.pick (.t 84) (.t 85) (.c (.bool false))),Ob 2 (.mov (.t 86))])
 (.ret))))))))))
def r10 : List Res := [.t 2]
def a10 : AFn := ⟨1, c10, r10,.v⟩

def c11 : ACode := .seq (.region [Ob 3 (.box (.t 0) 4),Ob 6 (.mov (.c (.bool false)))])
 (.seq (.seq (.region [Ob 20 (.load (.t 3) (some 4)),Ob 21 (.call 30 [(.t 20)])])
 (.cond (.t 21) (.seq (.region [Ob 22 (.call 13 []),Ob 6 (.mov (.t 22))])
 (.ret))
 (.skip)))
 (.seq (.region [Ob 23 (.load (.t 3) (some 4)),Ob 24 (.call 28 [(.t 23)]),Ob 7 (.new (.agg [(.sl [] .tight), (.sl [] .tight), (.sl [] .tight), (.sl [] .tight)]) 4),On (.store (.t 7) (.t 24) 4)])
 (.seq (.region [Ob 26 (.load (.t 7) (some 4)),Ob 27 (.mov (.t 1)),Ob 28 (.mov (.t 2)),Ob 29 (.call 16 [(.t 26), (.t 27), (.t 28)]),Ob 25 (.mov (.t 29)),Ob 30 (.ext (.t 25) 0),Ob 31 (.ext (.t 25) 1),Ob 8 (.new (.agg [(.int .i64 0), (.int .i64 0)]) 2),On (.store (.t 8) (.t 30) 2),Ob 9 (.mov (.t 31))])
 (.seq (.region [Ob 33 (.load (.t 3) (some 4)),Ob 34 (.mov (.t 1)),Ob 35 (.mov (.t 2)),Ob 36 (.call 40 [(.t 33), (.t 34), (.t 35)]),Ob 32 (.mov (.t 36)),Ob 37 (.ext (.t 32) 0),Ob 38 (.ext (.t 32) 1),Ob 10 (.new (.agg [(.int .i64 0), (.int .i64 0)]) 2),On (.store (.t 10) (.t 37) 2),Ob 11 (.mov (.t 38))])
 (.seq (.region [Ob 40 (.load (.t 7) (some 4)),Ob 41 (.mov (.t 1)),Ob 42 (.call 24 [(.t 40), (.t 41)]),Ob 39 (.mov (.t 42)),Ob 43 (.ext (.t 39) 0),Ob 44 (.ext (.t 39) 1),Ob 12 (.new (.agg [(.int .i64 0), (.int .i64 0)]) 2),On (.store (.t 12) (.t 43) 2),Ob 13 (.mov (.t 44))])
 (.seq (.region [Ob 46 (.load (.t 3) (some 4)),Ob 47 (.mov (.t 1)),Ob 48 (.call 41 [(.t 46), (.t 47)]),Ob 45 (.mov (.t 48)),Ob 49 (.ext (.t 45) 0),Ob 50 (.ext (.t 45) 1),Ob 14 (.new (.agg [(.int .i64 0), (.int .i64 0)]) 2),On (.store (.t 14) (.t 49) 2),Ob 15 (.mov (.t 50))])
 (.seq (.seq (.region [Ob 51 (.load (.t 8) (some 2)),Ob 52 (.load (.t 10) (some 2)),Ob 53 (.eqv true true [.i,.i] (.t 51) (.t 52)),Ob 54 (.mov (.t 53)),Og 55 54 false (.mov (.t 9)),Og 56 54 false (.mov (.t 11)),Og 57 54 false (.bin .neq (.t 55) (.t 56)),Ob 58 (.pick (.t 54) (.c (.bool true)) (.t 57)),Ob 59 (.mov (.t 58)),Og 60 59 false (.load (.t 12) (some 2)),Og 61 59 false (.load (.t 14) (some 2)),Og 62 59 false (.eqv true true [.i,.i] (.t 60) (.t 61)),Ob 63 (.pick (.t 59) (.c (.bool true)) (.t 62)),Ob 64 (.mov (.t 63)),Og 65 64 false (.mov (.t 13)),Og 66 64 false (.mov (.t 15)),Og 67 64 false (.bin .neq (.t 65) (.t 66)),Ob 68 (.pick (.t 64) (.c (.bool true)) (.t 67))])
 (.cond (.t 68) (.seq (.region [Ob 6 (.mov (.c (.bool false)))])
 (.ret))
 (.skip)))
 (.seq (.region [Ob 70 (.load (.t 7) (some 4)),Ob 71 (.call 27 [(.t 70)]),Ob 69 (.mov (.t 71)),Ob 72 (.ext (.t 69) 0),Ob 73 (.ext (.t 69) 1),Ob 16 (.mov (.t 72)),Ob 17 (.mov (.t 73))])
 (.seq (.seq (.region [Ob 74 (.mov (.t 17)),Ob 75 (.load (.t 3) (some 4)),Ob 76 (.call 42 [(.t 75)]),Ob 77 (.bin .neq (.t 74) (.t 76)),Ob 78 (.mov (.t 77)),Og 79 78 false (.mov (.t 17)),Og 80 78 false (.bin .neq (.t 79) (Ci 0)),Og 81 78 false (.mov (.t 80)),Og 82 81 true (.mov (.t 16)),Og 83 81 true (.len (.t 82)),Og 84 81 true (.bin .gtr (.t 83) (Ci 0)),Og 85 78 false (.pick (.t 81) (.t 84) (.c (.bool false))),Ob 86 (.pick (.t 78) (.c (.bool true)) (.t 85))])
 (.cond (.t 86) (.seq (.region [Ob 6 (.mov (.c (.bool false)))])
 (.ret))
 (.skip)))
 (.seq (.seq (.region [Ob 87 (.mov (.t 17)),Ob 88 (.bin .neq (.t 87) (Ci 0))])
 (.cond (.t 88) (.seq (.region [Ob 89 (.call 13 []),Ob 6 (.mov (.t 89))])
 (.ret))
 (.skip)))
 (.seq (.region [Ob 91 (.load (.t 3) (some 4)),Ob 92 (.call 37 [(.t 91)]),Ob 90 (.mov (.t 92)),Ob 93 (.ext (.t 90) 0),Ob 94 (.ext (.t 90) 1),Ob 18 (.mov (.t 93)),Ob 19 (.mov (.t 94))])
 (.seq (.region [Ob 95 (.load (.t 3) (some 4)),Ob 96 (.mov (.t 16)),Ob 97 (.call 18 [(.t 95), (.t 96)]),Ob 98 (.mov (.t 97)),Og 99 98 true (.load (.t 3) (some 4)),Og 100 98 true (.mov (.t 16)),Og 101 98 true (.call 20 [(.t 99), (.t 100)]),Og 102 98 true (.mov (.t 18)),Og 103 98 true (.bin .eql (.t 101) (.t 102)),Ob 104 (.pick (.t 98) (.t 103) (.c (.bool false))),Ob 105 (.mov (.t 104)),Og 106 105 true (.call 13 []),Ob 107 (.pick (.t 105) (.t 106) (.c (.bool false))),Ob 6 (.mov (.t 107))])
 (.ret)))))))))))))
def r11 : List Res := [.t 6]
def a11 : AFn := ⟨3, c11, r11,.v⟩

def c12 : ACode := .seq (.region [Ob 1 (.box (.t 0) 4),Ob 2 (.mov (.c (.bool false)))])
 (.seq (.region [Ob 3 (.load (.t 1) (some 4)),Ob 4 (.call 30 [(.t 3)]),Ob 5 (.not (.t 4)),Ob 6 (.mov (.t 5)),Og 7 6 true (.load (.t 1) (some 4)),Og 8 6 true (.call 29 [(.t 7)]),Og 9 6 true (.bin .eql (.t 8) (Ci 0)),Ob 10 (.pick (.t 6) (.t 9) (.c (.bool false))),Ob 2 (.mov (.t 10))])
 (.ret))
def r12 : List Res := [.t 2]
def a12 : AFn := ⟨1, c12, r12,.v⟩

def c13 : ACode := .seq (.region [Ob 0 (.mov (.c (.bool false)))])
 (.seq (.region [Ob 11 (.call 43 []),Ob 1 (.new (.agg [(.sl [] .tight), (.sl [] .tight), (.sl [] .tight), (.sl [] .tight)]) 4),On (.store (.t 1) (.t 11) 4)])
 (.seq (.region [Ob 13 (.load (.t 1) (some 4)),Ob 14 (.call 14 [(.t 13)]),Ob 12 (.mov (.t 14)),Ob 15 (.ext (.t 12) 0),Ob 16 (.ext (.t 12) 1),Ob 17 (.ext (.t 12) 2),Ob 2 (.mov (.t 15)),Ob 3 (.mov (.t 16)),Ob 4 (.mov (.t 17))])
 (.seq (.region [Ob 19 (.load (.t 1) (some 4)),Ob 20 (.call 15 [(.t 19)]),Ob 18 (.mov (.t 20)),Ob 21 (.ext (.t 18) 0),Ob 22 (.ext (.t 18) 1),Ob 5 (.mov (.t 21)),Ob 6 (.mov (.t 22))])
 (.seq (.region [Ob 24 (.load (.t 1) (some 4)),Ob 25 (.call 16 [(.t 24), (Ci 1), (Ci 1)]),Ob 23 (.mov (.t 25)),Ob 26 (.ext (.t 23) 0),Ob 27 (.ext (.t 23) 1),Ob 7 (.new (.agg [(.int .i64 0), (.int .i64 0)]) 2),On (.store (.t 7) (.t 26) 2),Ob 8 (.mov (.t 27))])
 (.seq (.region [Ob 29 (.load (.t 1) (some 4)),Ob 30 (.call 17 [(.t 29)]),Ob 28 (.mov (.t 30)),Ob 31 (.ext (.t 28) 0),Ob 32 (.ext (.t 28) 1),Ob 9 (.mov (.t 31)),Ob 10 (.mov (.t 32))])
 (.seq (.region [Ob 33 (.mov (.t 4)),Ob 34 (.bin .eql (.t 33) (Ci 0)),Ob 35 (.mov (.t 34)),Og 36 35 true (.mov (.t 6)),Og 37 35 true (.bin .eql (.t 36) (Ci 0)),Ob 38 (.pick (.t 35) (.t 37) (.c (.bool false))),Ob 39 (.mov (.t 38)),Og 40 39 true (.mov (.t 8)),Og 41 39 true (.bin .eql (.t 40) (Ci 0)),Ob 42 (.pick (.t 39) (.t 41) (.c (.bool false))),Ob 43 (.mov (.t 42)),Og 44 43 true (.mov (.t 10)),Og 45 43 true (.bin .eql (.t 44) (Ci 0)),Ob 46 (.pick (.t 43) (.t 45) (.c (.bool false))),Ob 47 (.mov (.t 46)),Og 48 47 true (.mov (.t 2)),Og 49 47 true (.bin .eql (.t 48) (Ci 1)),Ob 50 (.pick (.t 47) (.t 49) (.c (.bool false))),Ob 51 (.mov (.t 50)),Og 52 51 true (.mov (.t 3)),Og 53 51 true (.bin .eql (.t 52) (Ci 1)),Ob 54 (.pick (.t 51) (.t 53) (.c (.bool false))),Ob 55 (.mov (.t 54)),Og 56 55 true (.mov (.t 5)),Og 57 55 true (.bin .eql (.t 56) (Ci 1)),Ob 58 (.pick (.t 55) (.t 57) (.c (.bool false))),Ob 59 (.mov (.t 58)),Og 60 59 true (.load (.t 7) (some 2)),Og 61 59 true (.build [(.int .i64 0), (.int .i64 0)] [(0, 1, (Ci 4)), (1, 1, (Ci 4))]),Og 62 59 true (.eqv false true [.i,.i] (.t 60) (.t 61)),Ob 63 (.pick (.t 59) (.t 62) (.c (.bool false))),Ob 64 (.mov (.t 63)),Og 65 64 true (.mov (.t 9)),Og 66 64 true (.lit false 3 1 [(Ci 1)]),Og 67 64 true (.call 35 [(.t 65), (.t 66)]),Ob 68 (.pick (.t 64) (.t 67) (.c (.bool false))),Ob 0 (.mov (.t 68))])
 (.ret)))))))
def r13 : List Res := [.t 0]
def a13 : AFn := ⟨0, c13, r13,.v⟩

def c14 : ACode := .seq (.region [Ob 1 (.box (.t 0) 4),Ob 2 (.mov (Ci 0)),Ob 3 (.mov (Ci 0)),Ob 4 (.mov (Ci 0))])
 (.seq (.seq (.region [Ob 6 (.load (.t 1) (some 4)),Ob 7 (.call 31 [(.t 6)]),Ob 5 (.mov (.t 7))])
 (.seq (.region [Ob 8 (.mov (.t 5)),Ob 9 (.bin .neq (.t 8) (Ci 0))])
 (.cond (.t 9) (.seq (.region [Ob 10 (.mov (.t 5)),Ob 2 (.mov (Ci 0)),Ob 3 (.mov (Ci 0)),Ob 4 (.mov (.t 10))])
 (.ret))
 (.skip))))
 (.seq (.region [Ob 12 (.load (.t 1) (some 4)),Ob 13 (.call 44 [(.t 12)]),Ob 11 (.mov (.t 13)),Ob 14 (.ext (.t 11) 0),Ob 15 (.ext (.t 11) 1),Ob 2 (.mov (.t 14)),Ob 3 (.mov (.t 15))])
 (.seq (.region [Ob 16 (.mov (.t 2)),Ob 17 (.mov (.t 3)),Ob 2 (.mov (.t 16)),Ob 3 (.mov (.t 17)),Ob 4 (.mov (Ci 0))])
 (.ret))))
def r14 : List Res := [.t 2,.t 3,.t 4]
def a14 : AFn := ⟨1, c14, r14,.v⟩

def c15 : ACode := .seq (.region [Ob 1 (.box (.t 0) 4),Ob 2 (.mov (Ci 0)),Ob 3 (.mov (Ci 0))])
 (.seq (.seq (.region [Ob 7 (.load (.t 1) (some 4)),Ob 8 (.call 45 [(.t 7), (Ci 0), (Ci 0)]),Ob 4 (.mov (.t 8))])
 (.seq (.region [Ob 9 (.mov (.t 4)),Ob 10 (.bin .neq (.t 9) (Ci 0))])
 (.cond (.t 10) (.seq (.region [Ob 11 (.mov (.t 4)),Ob 2 (.mov (Ci 0)),Ob 3 (.mov (.t 11))])
 (.ret))
 (.skip))))
 (.seq (.region [Ob 13 (.load (.t 1) (some 4)),Ob 14 (.call 46 [(.t 13)]),Ob 15 (.call 47 [(.t 14), (Ci 0)]),Ob 12 (.mov (.t 15)),Ob 16 (.ext (.t 12) 0),Ob 17 (.ext (.t 12) 1),Ob 5 (.mov (.t 16)),Ob 6 (.mov (.t 17))])
 (.seq (.region [Ob 18 (.mov (.t 6)),Ob 2 (.mov (.t 18)),Ob 3 (.mov (Ci 0))])
 (.ret))))
def r15 : List Res := [.t 2,.t 3]
def a15 : AFn := ⟨1, c15, r15,.v⟩

def c16 : ACode := .seq (.region [Ob 3 (.box (.t 0) 4),Ob 5 (.box (.t 2) 1),Ob 6 (.new (.agg [(.int .i64 0), (.int .i64 0)]) 2),Ob 7 (.mov (Ci 0))])
 (.seq (.region [Ob 8 (.load (.t 3) (some 4)),Ob 9 (.mov (.t 1)),Ob 10 (.load (.t 5) none),Ob 11 (.clo 49 [] [(.t 5)]),Ob 12 (.call 48 [(.t 8), (.t 9), (.t 10), (.t 11)]),Ob 13 (.ext (.t 12) 0),Ob 14 (.ext (.t 12) 1),On (.store (.t 6) (.t 13) 2),Ob 7 (.mov (.t 14))])
 (.ret))
def r16 : List Res := [.cell 6 (some 2),.t 7]
def a16 : AFn := ⟨3, c16, r16,.v⟩

def c17 : ACode := .seq (.region [Ob 1 (.box (.t 0) 4),Ob 2 (.mov (.c (.sl [] .tight))),Ob 3 (.mov (Ci 0))])
 (.seq (.region [Ob 4 (.load (.t 1) (some 4)),Ob 5 (.call 50 [(.t 4), (.c (.fn 51 [] []))]),Ob 6 (.ext (.t 5) 0),Ob 7 (.ext (.t 5) 1),Ob 2 (.mov (.t 6)),Ob 3 (.mov (.t 7))])
 (.ret))
def r17 : List Res := [.t 2,.t 3]
def a17 : AFn := ⟨1, c17, r17,.v⟩

def c18 : ACode := .seq (.region [Ob 2 (.box (.t 0) 4),Ob 4 (.mov (.c (.bool false)))])
 (.seq (.seq (.region [Ob 8 (.mov (.t 1)),Ob 9 (.len (.t 8)),Ob 10 (.addr (.t 2) 3),Ob 11 (.load (.t 10) none),Ob 12 (.len (.t 11)),Ob 13 (.bin .neq (.t 9) (.t 12))])
 (.cond (.t 13) (.seq (.region [Ob 4 (.mov (.c (.bool false)))])
 (.ret))
 (.skip)))
 (.seq (.region [Ob 14 (.addr (.t 2) 1),Ob 15 (.load (.t 14) none),Ob 16 (.len (.t 15)),Ob 17 (.make (.int .i64 0) 3 1 8 (.t 16) (.t 16)),Ob 5 (.mov (.t 17))])
 (.seq (.seq (.region [Ob 6 (.mov (Ci 0))])
 (.block 0 (.loop (.seq (.seq (.region [Ob 18 (.mov (.t 6)),Ob 19 (.mov (.t 1)),Ob 20 (.len (.t 19)),Ob 21 (.bin .lss (.t 18) (.t 20))])
 (.cond (.t 21) (.skip)
 (.exit 0)))
 (.seq (.block 1 (.seq (.seq (.region [Ob 24 (.mov (.t 1)),Ob 25 (.mov (.t 6)),Ob 26 (.idx (.t 24) (.t 25) 1),Ob 27 (.load (.t 26) none),Ob 28 (.len (.t 27)),Ob 29 (.addr (.t 2) 1),Ob 30 (.load (.t 29) none),Ob 31 (.len (.t 30)),Ob 32 (.bin .neq (.t 28) (.t 31)),Ob 33 (.mov (.t 32)),Og 34 33 false (.mov (.t 1)),Og 35 33 false (.mov (.t 6)),Og 36 33 false (.idx (.t 34) (.t 35) 1),Og 37 33 false (.load (.t 36) none),Og 38 33 false (.call 54 [(.t 37), (Ci 0), (Ci 20)]),Og 39 33 false (.not (.t 38)),Ob 40 (.pick (.t 33) (.c (.bool true)) (.t 39)),Ob 41 (.mov (.t 40)),Og 42 41 false (.mov (.t 1)),Og 43 41 false (.mov (.t 6)),Og 44 41 false (.idx (.t 42) (.t 43) 1),Og 45 41 false (.load (.t 44) none),Og 46 41 false (.call 55 [(.t 45)]),Og 47 41 false (.addr (.t 2) 3),Og 48 41 false (.load (.t 47) none),Og 49 41 false (.mov (.t 6)),Og 50 41 false (.idx (.t 48) (.t 49) 6),Og 51 41 false (.load (.t 50) (some 6)),Og 52 41 false (.call 26 [(.t 51)]),Og 53 41 false (.bin .neq (.t 46) (.t 52)),Ob 54 (.pick (.t 41) (.c (.bool true)) (.t 53))])
 (.cond (.t 54) (.seq (.region [Ob 4 (.mov (.c (.bool false)))])
 (.ret))
 (.skip)))
 (.seq (.region [Ob 7 (.mov (Ci 0))])
 (.block 2 (.loop (.seq (.seq (.region [Ob 55 (.mov (.t 7)),Ob 56 (.mov (.t 5)),Ob 57 (.len (.t 56)),Ob 58 (.bin .lss (.t 55) (.t 57))])
 (.cond (.t 58) (.skip)
 (.exit 2)))
 (.seq (.block 3 (.region [Ob 61 (.mov (.t 5)),Ob 62 (.mov (.t 7)),Ob 63 (.idx (.t 61) (.t 62) 1),Ob 64 (.load (.t 63) none),Ob 65 (.mov (.t 1)),Ob 66 (.mov (.t 6)),Ob 67 (.idx (.t 65) (.t 66) 1),Ob 68 (.load (.t 67) none),Ob 69 (.mov (.t 7)),Ob 70 (.idx (.t 68) (.t 69) 1),Ob 71 (.load (.t 70) none),Ob 72 (.bin .add (.t 64) (.t 71)),Ob 73 (.idx (.t 61) (.t 62) 1),On (.store (.t 73) (.t 72) 1)]))
 (.region [Ob 59 (.mov (.t 7)),Ob 60 (.bin .add (.t 59) (Ci 1)),Ob 7 (.mov (.t 60))]))))))))
 (.region [Ob 22 (.mov (.t 6)),Ob 23 (.bin .add (.t 22) (Ci 1)),Ob 6 (.mov (.t 23))]))))))
 (.seq (.region [Ob 74 (.mov (.t 5)),Ob 75 (.addr (.t 2) 1),Ob 76 (.load (.t 75) none),Ob 77 (.call 56 [(.t 74), (.t 76)]),Ob 4 (.mov (.t 77))])
 (.ret)))))
def r18 : List Res := [.t 4]
def a18 : AFn := ⟨2, c18, r18,.v⟩

def c19 : ACode := .seq (.region [Ob 1 (.box (.t 0) 4),Ob 2 (.mov (.c (.sl [] .tight)))])
 (.seq (.region [Ob 3 (.mov (.c (.sl [] .tight)))])
 (.seq (.seq (.region [Ob 4 (.mov (Ci 0))])
 (.block 0 (.loop (.seq (.seq (.region [Ob 5 (.mov (.t 4)),Ob 6 (.addr (.t 1) 3),Ob 7 (.load (.t 6) none),Ob 8 (.len (.t 7)),Ob 9 (.bin .lss (.t 5) (.t 8))])
 (.cond (.t 9) (.skip)
 (.exit 0)))
 (.seq (.block 1 (.region [Ob 12 (.mov (.t 3)),Ob 13 (.addr (.t 1) 3),Ob 14 (.load (.t 13) none),Ob 15 (.mov (.t 4)),Ob 16 (.idx (.t 14) (.t 15) 6),Ob 17 (.addr (.t 16) 0),Ob 18 (.load (.t 17) none),Ob 19 (.lit false 22 1 [(.t 18)]),Ob 20 (.app false (.t 12) (.t 19) 22 1 24),Ob 3 (.mov (.t 20))]))
 (.region [Ob 10 (.mov (.t 4)),Ob 11 (.bin .add (.t 10) (Ci 1)),Ob 4 (.mov (.t 11))]))))))
 (.seq (.region [Ob 21 (.mov (.t 3)),Ob 2 (.mov (.t 21))])
 (.ret))))
def r19 : List Res := [.t 2]
def a19 : AFn := ⟨1, c19, r19,.v⟩

def c20 : ACode := .seq (.region [Ob 2 (.box (.t 0) 4),Ob 4 (.mov (Ci 0))])
 (.seq (.region [Ob 5 (.mov (Ci 0))])
 (.seq (.seq (.region [Ob 6 (.mov (Ci 0))])
 (.block 0 (.loop (.seq (.seq (.region [Ob 7 (.mov (.t 6)),Ob 8 (.mov (.t 1)),Ob 9 (.len (.t 8)),Ob 10 (.bin .lss (.t 7) (.t 9))])
 (.cond (.t 10) (.skip)
 (.exit 0)))
 (.seq (.block 1 (.region [Ob 13 (.mov (.t 5)),Ob 14 (.load (.t 2) (some 4)),Ob 15 (.mov (.t 6)),Ob 16 (.mov (.t 1)),Ob 17 (.mov (.t 6)),Ob 18 (.idx (.t 16) (.t 17) 1),Ob 19 (.load (.t 18) none),Ob 20 (.call 22 [(.t 14), (.t 15), (.t 19)]),Ob 21 (.bin .add (.t 13) (.t 20)),Ob 5 (.mov (.t 21))]))
 (.region [Ob 11 (.mov (.t 6)),Ob 12 (.bin .add (.t 11) (Ci 1)),Ob 6 (.mov (.t 12))]))))))
 (.seq (.region [Ob 22 (.mov (.t 5)),Ob 4 (.mov (.t 22))])
 (.ret))))
def r20 : List Res := [.t 4]
def a20 : AFn := ⟨2, c20, r20,.v⟩

def c21 : ACode := .seq (.region [Ob 1 (.box (.t 0) 4),Ob 2 (.mov (.c (.sl [] .tight))),Ob 3 (.mov (Ci 0))])
 (.seq (.region [Ob 4 (.load (.t 1) (some 4)),Ob 5 (.call 50 [(.t 4), (.c (.fn 57 [] []))]),Ob 6 (.ext (.t 5) 0),Ob 7 (.ext (.t 5) 1),Ob 2 (.mov (.t 6)),Ob 3 (.mov (.t 7))])
 (.ret))
def r21 : List Res := [.t 2,.t 3]
def a21 : AFn := ⟨1, c21, r21,.v⟩

def c22 : ACode := .seq (.region [Ob 3 (.box (.t 0) 4),Ob 6 (.mov (Ci 0))])
 (.seq (.region [Ob 7 (.mov (Ci 0))])
 (.seq (.seq (.region [Ob 8 (.load (.t 3) (some 4)),Ob 9 (.mov (.t 1)),Ob 10 (.mov (.t 2)),Ob 11 (.call 59 [(.t 8), (.t 9), (.t 10)])])
 (.cond (.t 11) (.region [Ob 12 (.mov (.t 7)),Ob 13 (.bin .add (.t 12) (Ci 1)),Ob 7 (.mov (.t 13))])
 (.skip)))
 (.seq (.seq (.region [Ob 14 (.load (.t 3) (some 4)),Ob 15 (.mov (.t 1)),Ob 16 (.mov (.t 2)),Ob 17 (.call 60 [(.t 14), (.t 15), (.t 16)])])
 (.cond (.t 17) (.region [Ob 18 (.mov (.t 7)),Ob 19 (.bin .add (.t 18) (Ci 1)),Ob 7 (.mov (.t 19))])
 (.skip)))
 (.seq (.region [Ob 20 (.mov (.t 7)),Ob 6 (.mov (.t 20))])
 (.ret)))))
def r22 : List Res := [.t 6]
def a22 : AFn := ⟨3, c22, r22,.v⟩

def c23 : ACode := .seq (.region [Ob 4 (.mov (.c (.bool false)))])
 (.seq (.seq (.region [Ob 5 (.mov (Ci 0))])
 (.block 0 (.loop (.seq (.seq (.region [Ob 6 (.mov (.t 5)),Ob 7 (.mov (.t 0)),Ob 8 (.len (.t 7)),Ob 9 (.bin .lss (.t 6) (.t 8))])
 (.cond (.t 9) (.skip)
 (.exit 0)))
 (.seq (.block 1 (.seq (.region [Ob 12 (.mov (.t 0)),Ob 13 (.mov (.t 5)),Ob 14 (.idx (.t 12) (.t 13) 1),Ob 15 (.load (.t 14) none),Ob 16 (.mov (.t 1)),Ob 17 (.bin .eql (.t 15) (.t 16))])
 (.cond (.t 17) (.seq (.region [Ob 4 (.mov (.c (.bool true)))])
 (.ret))
 (.skip))))
 (.region [Ob 10 (.mov (.t 5)),Ob 11 (.bin .add (.t 10) (Ci 1)),Ob 5 (.mov (.t 11))]))))))
 (.seq (.region [Ob 4 (.mov (.c (.bool false)))])
 (.ret)))
def r23 : List Res := [.t 4]
def a23 : AFn := ⟨2, c23, r23,.v⟩

def c24 : ACode := .seq (.region [Ob 2 (.box (.t 0) 4),Ob 4 (.new (.agg [(.int .i64 0), (.int .i64 0)]) 2),Ob 5 (.mov (Ci 0))])
 (.seq (.region [Ob 6 (.load (.t 2) (some 4)),Ob 7 (.mov (.t 1)),Ob 8 (.call 48 [(.t 6), (.t 7), (Ci 0), (.c (.fn 61 [] []))]),Ob 9 (.ext (.t 8) 0),Ob 10 (.ext (.t 8) 1),On (.store (.t 4) (.t 9) 2),Ob 5 (.mov (.t 10))])
 (.ret))
def r24 : List Res := [.cell 4 (some 2),.t 5]
def a24 : AFn := ⟨2, c24, r24,.v⟩

def c25 : ACode := .seq (.region [Ob 3 (.box (.t 0) 4),Ob 6 (.mov (Ci 0))])
 (.seq (.region [Ob 9 (.addr (.t 3) 3),Ob 10 (.load (.t 9) none),Ob 11 (.mov (.t 1)),Ob 12 (.idx (.t 10) (.t 11) 6),Ob 13 (.addr (.t 12) 4),Ob 14 (.load (.t 13) none),Ob 7 (.mov (.t 14))])
 (.seq (.seq (.region [Ob 8 (.mov (Ci 0))])
 (.block 0 (.loop (.seq (.seq (.region [Ob 15 (.mov (.t 8)),Ob 16 (.mov (.t 2)),Ob 17 (.len (.t 16)),Ob 18 (.bin .lss (.t 15) (.t 17))])
 (.cond (.t 18) (.skip)
 (.exit 0)))
 (.seq (.block 1 (.region [Ob 21 (.mov (.t 7)),Ob 22 (.mov (.t 2)),Ob 23 (.mov (.t 8)),Ob 24 (.idx (.t 22) (.t 23) 1),Ob 25 (.load (.t 24) none),Ob 26 (.addr (.t 3) 0),Ob 27 (.load (.t 26) none),Ob 28 (.mov (.t 8)),Ob 29 (.idx (.t 27) (.t 28) 1),Ob 30 (.load (.t 29) none),Ob 31 (.bin .mul (.t 25) (.t 30)),Ob 32 (.bin .add (.t 21) (.t 31)),Ob 7 (.mov (.t 32))]))
 (.region [Ob 19 (.mov (.t 8)),Ob 20 (.bin .add (.t 19) (Ci 1)),Ob 8 (.mov (.t 20))]))))))
 (.seq (.region [Ob 33 (.mov (.t 7)),Ob 6 (.mov (.t 33))])
 (.ret))))
def r25 : List Res := [.t 6]
def a25 : AFn := ⟨3, c25, r25,.v⟩

def c26 : ACode := .seq (.region [Ob 1 (.box (.t 0) 6),Ob 2 (.mov (Ci 0))])
 (.seq (.region [Ob 3 (.addr (.t 1) 2),Ob 4 (.load (.t 3) none),Ob 5 (.addr (.t 1) 1),Ob 6 (.load (.t 5) none),Ob 7 (.bin .sub (.t 4) (.t 6)),Ob 8 (.addr (.t 1) 3),Ob 9 (.load (.t 8) none),Ob 10 (.bin .sub (.t 7) (.t 9)),Ob 2 (.mov (.t 10))])
 (.ret))
def r26 : List Res := [.t 2]
def a26 : AFn := ⟨1, c26, r26,.v⟩

def c27 : ACode := .seq (.region [Ob 1 (.box (.t 0) 4),Ob 2 (.mov (.c (.sl [] .tight))),Ob 3 (.mov (Ci 0))])
 (.seq (.seq (.region [Ob 11 (.load (.t 1) (some 4)),Ob 12 (.call 45 [(.t 11), (Ci 0), (Ci 0)]),Ob 4 (.mov (.t 12))])
 (.seq (.region [Ob 13 (.mov (.t 4)),Ob 14 (.bin .neq (.t 13) (Ci 0))])
 (.cond (.t 14) (.seq (.region [Ob 15 (.mov (.t 4)),Ob 2 (.mov (.c (.sl [] .tight))),Ob 3 (.mov (.t 15))])
 (.ret))
 (.skip))))
 (.seq (.region [Ob 16 (.load (.t 1) (some 4)),Ob 17 (.call 46 [(.t 16)]),Ob 5 (.new (.agg [(.int .i64 0), (.int .i64 0), (.int .i64 0), (.sl [] .tight)]) 4),On (.store (.t 5) (.t 17) 4)])
 (.seq (.region [Ob 18 (.addr (.t 1) 3),Ob 19 (.load (.t 18) none),Ob 20 (.len (.t 19)),Ob 21 (.make (.sl [] .tight) 22 1 24 (.t 20) (.t 20)),Ob 6 (.mov (.t 21))])
 (.seq (.seq (.region [Ob 22 (.addr (.t 1) 3),Ob 23 (.load (.t 22) none),Ob 24 (.call 62 [(.t 23)]),Ob 25 (.len (.t 24)),Ob 26 (.mov (Ci 0))])
 (.block 0 (.loop (.seq (.region [Ob 27 (.bin .lss (.t 26) (.t 25))])
 (.seq (.cond (.t 27) (.skip)
 (.exit 0))
 (.seq (.block 1 (.seq (.region [Ob 28 (.idx (.t 24) (.t 26) 1),Ob 29 (.load (.t 28) none),Ob 8 (.mov (.t 29))])
 (.seq (.region [Ob 31 (.load (.t 5) (some 4)),Ob 32 (.mov (.t 8)),Ob 33 (.call 47 [(.t 31), (.t 32)]),Ob 30 (.mov (.t 33)),Ob 34 (.ext (.t 30) 0),Ob 35 (.ext (.t 30) 1),Ob 9 (.mov (.t 34)),Ob 10 (.mov (.t 35))])
 (.seq (.region [Ob 36 (.addr (.t 5) 3),Ob 37 (.load (.t 36) none),Ob 38 (.mov (.t 8)),Ob 39 (.mov (.t 9)),Ob 40 (.slice (.t 39) none (some (Ci 1)) 5),Ob 41 (.idx (.t 37) (.t 38) 1),On (.store (.t 41) (.t 40) 1)])
 (.region [Ob 42 (.mov (.t 6)),Ob 43 (.mov (.t 8)),Ob 44 (.mov (.t 9)),Ob 45 (.idx (.t 44) (Ci 0) 5),Ob 46 (.addr (.t 45) 0),Ob 47 (.addr (.t 1) 0),Ob 48 (.load (.t 47) none),Ob 49 (.len (.t 48)),Ob 50 (.aslc (.t 46) none (some (.t 49)) 3),Ob 51 (.call 63 [(.t 50)]),Ob 52 (.idx (.t 42) (.t 43) 1),On (.store (.t 52) (.t 51) 1)])))))
 (.region [Ob 53 (.bin .add (.t 26) (Ci 1)),Ob 26 (.mov (.t 53))])))))))
 (.seq (.region [Ob 54 (.mov (.t 6)),Ob 2 (.mov (.t 54)),Ob 3 (.mov (Ci 0))])
 (.ret))))))
def r27 : List Res := [.t 2,.t 3]
def a27 : AFn := ⟨1, c27, r27,.v⟩

def c28 : ACode := .seq (.region [Ob 1 (.box (.t 0) 4),Ob 2 (.new (.agg [(.sl [] .tight), (.sl [] .tight), (.sl [] .tight), (.sl [] .tight)]) 4)])
 (.seq (.regionD [Ob 6 (.lit false 3 1 []),Ob 7 (.addr (.t 1) 0),Ob 8 (.load (.t 7) none),Ob 10 (.lit false 3 1 []),Ob 11 (.addr (.t 1) 1),Ob 12 (.load (.t 11) none),Ob 14 (.lit false 3 1 []),Ob 15 (.addr (.t 1) 2),Ob 16 (.load (.t 15) none),On (.mov (.c .undef)),Ob 9 (.app false (.t 6) (.t 8) 3 1 8),Ob 13 (.app false (.t 10) (.t 12) 3 1 8),Ob 17 (.app false (.t 14) (.t 16) 3 1 8),Ob 18 (.build [(.sl [] .tight), (.sl [] .tight), (.sl [] .tight), (.sl [] .tight)] [(0, 1, (.t 9)), (1, 1, (.t 13)), (2, 1, (.t 17))]),Ob 3 (.box (.t 18) 4)] [(1, 6), (11, 6), (1, 6), (1, 10), (15, 6), (15, 10)])
 (.seq (.seq (.region [Ob 4 (.mov (Ci 0))])
 (.block 0 (.loop (.seq (.seq (.region [Ob 19 (.mov (.t 4)),Ob 20 (.addr (.t 1) 3),Ob 21 (.load (.t 20) none),Ob 22 (.len (.t 21)),Ob 23 (.bin .lss (.t 19) (.t 22))])
 (.cond (.t 23) (.skip)
 (.exit 0)))
 (.seq (.block 1 (.seq (.region [Ob 26 (.addr (.t 1) 3),Ob 27 (.load (.t 26) none),Ob 28 (.mov (.t 4)),Ob 29 (.idx (.t 27) (.t 28) 6),Ob 30 (.load (.t 29) (some 6)),Ob 5 (.new (.agg [(.sl [] .tight), (.int .i64 0), (.int .i64 0), (.int .i64 0), (.int .i64 0), (.int .i64 0)]) 6),On (.store (.t 5) (.t 30) 6)])
 (.seq (.region [Ob 31 (.lit false 3 1 []),Ob 32 (.addr (.t 5) 0),Ob 33 (.load (.t 32) none),Ob 34 (.app false (.t 31) (.t 33) 3 1 8),Ob 35 (.addr (.t 5) 0),On (.store (.t 35) (.t 34) 1)])
 (.region [Ob 36 (.addr (.t 3) 3),Ob 37 (.load (.t 36) none),Ob 38 (.load (.t 5) (some 6)),Ob 39 (.lit false 40 6 [(.t 38)]),Ob 40 (.app false (.t 37) (.t 39) 40 6 64),Ob 41 (.addr (.t 3) 3),On (.store (.t 41) (.t 40) 1)]))))
 (.region [Ob 24 (.mov (.t 4)),Ob 25 (.bin .add (.t 24) (Ci 1)),Ob 4 (.mov (.t 25))]))))))
 (.seq (.region [Ob 42 (.load (.t 3) (some 4)),On (.store (.t 2) (.t 42) 4)])
 (.ret))))
def r28 : List Res := [.cell 2 (some 4)]
def a28 : AFn := ⟨1, c28, r28,.v⟩

def c29 : ACode := .seq (.region [Ob 1 (.box (.t 0) 4),Ob 2 (.mov (Ci 0))])
 (.seq (.region [Ob 3 (.mov (Ci 80))])
 (.seq (.seq (.region [Ob 6 (.addr (.t 1) 0),Ob 7 (.load (.t 6) none),Ob 8 (.len (.t 7)),Ob 9 (.call 64 [(.t 8), (Ci 1), (Ci 3)]),Ob 10 (.not (.t 9)),Ob 11 (.mov (.t 10)),Og 12 11 false (.addr (.t 1) 1),Og 13 11 false (.load (.t 12) none),Og 14 11 false (.len (.t 13)),Og 15 11 false (.addr (.t 1) 0),Og 16 11 false (.load (.t 15) none),Og 17 11 false (.len (.t 16)),Og 18 11 false (.bin .neq (.t 14) (.t 17)),Ob 19 (.pick (.t 11) (.c (.bool true)) (.t 18)),Ob 20 (.mov (.t 19)),Og 21 20 false (.addr (.t 1) 2),Og 22 20 false (.load (.t 21) none),Og 23 20 false (.len (.t 22)),Og 24 20 false (.addr (.t 1) 0),Og 25 20 false (.load (.t 24) none),Og 26 20 false (.len (.t 25)),Og 27 20 false (.bin .neq (.t 23) (.t 26)),Ob 28 (.pick (.t 20) (.c (.bool true)) (.t 27)),Ob 29 (.mov (.t 28)),Og 30 29 false (.addr (.t 1) 0),Og 31 29 false (.load (.t 30) none),Og 32 29 false (.call 54 [(.t 31), (Ci 1), (Ci 50)]),Og 33 29 false (.not (.t 32)),Ob 34 (.pick (.t 29) (.c (.bool true)) (.t 33)),Ob 35 (.mov (.t 34)),Og 36 35 false (.addr (.t 1) 1),Og 37 35 false (.load (.t 36) none),Og 38 35 false (.mov (.t 3)),Og 39 35 false (.call 54 [(.t 37), (Ci 0), (.t 38)]),Og 40 35 false (.not (.t 39)),Ob 41 (.pick (.t 35) (.c (.bool true)) (.t 40)),Ob 42 (.mov (.t 41)),Og 43 42 false (.addr (.t 1) 2),Og 44 42 false (.load (.t 43) none),Og 45 42 false (.mov (.t 3)),Og 46 42 false (.call 54 [(.t 44), (Ci 0), (.t 45)]),Og 47 42 false (.not (.t 46)),Ob 48 (.pick (.t 42) (.c (.bool true)) (.t 47)),Ob 49 (.mov (.t 48)),Og 50 49 false (.addr (.t 1) 3),Og 51 49 false (.load (.t 50) none),Og 52 49 false (.len (.t 51)),Og 53 49 false (.call 64 [(.t 52), (Ci 1), (Ci 4)]),Og 54 49 false (.not (.t 53)),Ob 55 (.pick (.t 49) (.c (.bool true)) (.t 54))])
 (.cond (.t 55) (.seq (.region [Ob 2 (.mov (Ci 100))])
 (.ret))
 (.skip)))
 (.seq (.seq (.region [Ob 4 (.mov (Ci 0))])
 (.block 0 (.loop (.seq (.seq (.region [Ob 56 (.mov (.t 4)),Ob 57 (.addr (.t 1) 3),Ob 58 (.load (.t 57) none),Ob 59 (.len (.t 58)),Ob 60 (.bin .lss (.t 56) (.t 59))])
 (.cond (.t 60) (.skip)
 (.exit 0)))
 (.seq (.block 1 (.seq (.region [Ob 63 (.addr (.t 1) 3),Ob 64 (.load (.t 63) none),Ob 65 (.mov (.t 4)),Ob 66 (.idx (.t 64) (.t 65) 6),Ob 67 (.load (.t 66) (some 6)),Ob 5 (.new (.agg [(.sl [] .tight), (.int .i64 0), (.int .i64 0), (.int .i64 0), (.int .i64 0), (.int .i64 0)]) 6),On (.store (.t 5) (.t 67) 6)])
 (.seq (.region [Ob 68 (.addr (.t 5) 0),Ob 69 (.load (.t 68) none),Ob 70 (.len (.t 69)),Ob 71 (.addr (.t 1) 0),Ob 72 (.load (.t 71) none),Ob 73 (.len (.t 72)),Ob 74 (.bin .neq (.t 70) (.t 73)),Ob 75 (.mov (.t 74)),Og 76 75 false (.addr (.t 5) 0),Og 77 75 false (.load (.t 76) none),Og 78 75 false (.call 54 [(.t 77), (Ci 0), (Ci 20)]),Og 79 75 false (.not (.t 78)),Ob 80 (.pick (.t 75) (.c (.bool true)) (.t 79)),Ob 81 (.mov (.t 80)),Og 82 81 false (.addr (.t 5) 1),Og 83 81 false (.load (.t 82) none),Og 84 81 false (.addr (.t 5) 2),Og 85 81 false (.load (.t 84) none),Og 86 81 false (.addr (.t 5) 4),Og 87 81 false (.load (.t 86) none),Og 88 81 false (.addr (.t 5) 5),Og 89 81 false (.load (.t 88) none),Og 90 81 false (.lit false 3 1 [(.t 83), (.t 85), (.t 87), (.t 89)]),Og 91 81 false (.call 54 [(.t 90), (Ci 0), (Ci 9999)]),Og 92 81 false (.not (.t 91)),Ob 93 (.pick (.t 81) (.c (.bool true)) (.t 92)),Ob 94 (.mov (.t 93)),Og 95 94 false (.addr (.t 5) 3),Og 96 94 false (.load (.t 95) none),Og 97 94 false (.call 64 [(.t 96), (Ci 0), (Ci 20)]),Og 98 94 false (.not (.t 97)),Ob 99 (.pick (.t 94) (.c (.bool true)) (.t 98)),Ob 100 (.mov (.t 99)),Og 101 100 false (.load (.t 5) (some 6)),Og 102 100 false (.call 26 [(.t 101)]),Og 103 100 false (.call 64 [(.t 102), (Ci 0), (Ci 20)]),Og 104 100 false (.not (.t 103)),Ob 105 (.pick (.t 100) (.c (.bool true)) (.t 104))])
 (.cond (.t 105) (.seq (.region [Ob 2 (.mov (Ci 100))])
 (.ret))
 (.skip)))))
 (.region [Ob 61 (.mov (.t 4)),Ob 62 (.bin .add (.t 61) (Ci 1)),Ob 4 (.mov (.t 62))]))))))
 (.seq (.region [Ob 2 (.mov (Ci 0))])
 (.ret)))))
def r29 : List Res := [.t 2]
def a29 : AFn := ⟨1, c29, r29,.v⟩

def c30 : ACode := .seq (.region [Ob 1 (.box (.t 0) 4),Ob 2 (.mov (.c (.bool false)))])
 (.seq (.seq (.region [Ob 5 (.addr (.t 1) 0),Ob 6 (.load (.t 5) none),Ob 7 (.len (.t 6)),Ob 8 (.bin .gtr (.t 7) (Ci 30)),Ob 9 (.mov (.t 8)),Og 10 9 false (.addr (.t 1) 1),Og 11 9 false (.load (.t 10) none),Og 12 9 false (.len (.t 11)),Og 13 9 false (.bin .gtr (.t 12) (Ci 30)),Ob 14 (.pick (.t 9) (.c (.bool true)) (.t 13)),Ob 15 (.mov (.t 14)),Og 16 15 false (.addr (.t 1) 2),Og 17 15 false (.load (.t 16) none),Og 18 15 false (.len (.t 17)),Og 19 15 false (.bin .gtr (.t 18) (Ci 30)),Ob 20 (.pick (.t 15) (.c (.bool true)) (.t 19)),Ob 21 (.mov (.t 20)),Og 22 21 false (.addr (.t 1) 3),Og 23 21 false (.load (.t 22) none),Og 24 21 false (.len (.t 23)),Og 25 21 false (.bin .gtr (.t 24) (Ci 30)),Ob 26 (.pick (.t 21) (.c (.bool true)) (.t 25))])
 (.cond (.t 26) (.seq (.region [Ob 2 (.mov (.c (.bool true)))])
 (.ret))
 (.skip)))
 (.seq (.seq (.region [Ob 3 (.mov (Ci 0))])
 (.block 0 (.loop (.seq (.seq (.region [Ob 27 (.mov (.t 3)),Ob 28 (.addr (.t 1) 3),Ob 29 (.load (.t 28) none),Ob 30 (.len (.t 29)),Ob 31 (.bin .lss (.t 27) (.t 30))])
 (.cond (.t 31) (.skip)
 (.exit 0)))
 (.seq (.block 1 (.seq (.region [Ob 34 (.addr (.t 1) 3),Ob 35 (.load (.t 34) none),Ob 36 (.mov (.t 3)),Ob 37 (.idx (.t 35) (.t 36) 6),Ob 38 (.addr (.t 37) 0),Ob 39 (.load (.t 38) none),Ob 40 (.len (.t 39)),Ob 41 (.bin .gtr (.t 40) (Ci 30))])
 (.cond (.t 41) (.seq (.region [Ob 2 (.mov (.c (.bool true)))])
 (.ret))
 (.skip))))
 (.region [Ob 32 (.mov (.t 3)),Ob 33 (.bin .add (.t 32) (Ci 1)),Ob 3 (.mov (.t 33))]))))))
 (.seq (.seq (.region [Ob 42 (.load (.t 1) (some 4)),Ob 43 (.call 29 [(.t 42)]),Ob 44 (.bin .neq (.t 43) (Ci 0))])
 (.cond (.t 44) (.seq (.region [Ob 2 (.mov (.c (.bool false)))])
 (.ret))
 (.skip)))
 (.seq (.seq (.region [Ob 4 (.mov (Ci 0))])
 (.block 2 (.loop (.seq (.seq (.region [Ob 45 (.mov (.t 4)),Ob 46 (.addr (.t 1) 3),Ob 47 (.load (.t 46) none),Ob 48 (.len (.t 47)),Ob 49 (.bin .lss (.t 45) (.t 48))])
 (.cond (.t 49) (.skip)
 (.exit 2)))
 (.seq (.block 3 (.seq (.region [Ob 52 (.addr (.t 1) 3),Ob 53 (.load (.t 52) none),Ob 54 (.mov (.t 4)),Ob 55 (.idx (.t 53) (.t 54) 6),Ob 56 (.load (.t 55) (some 6)),Ob 57 (.call 26 [(.t 56)]),Ob 58 (.bin .gtr (.t 57) (Ci 7))])
 (.cond (.t 58) (.seq (.region [Ob 2 (.mov (.c (.bool true)))])
 (.ret))
 (.skip))))
 (.region [Ob 50 (.mov (.t 4)),Ob 51 (.bin .add (.t 50) (Ci 1)),Ob 4 (.mov (.t 51))]))))))
 (.seq (.region [Ob 59 (.addr (.t 1) 3),Ob 60 (.load (.t 59) none),Ob 61 (.len (.t 60)),Ob 62 (.bin .gtr (.t 61) (Ci 3)),Ob 2 (.mov (.t 62))])
 (.ret))))))
def r30 : List Res := [.t 2]
def a30 : AFn := ⟨1, c30, r30,.v⟩

def c31 : ACode := .seq (.region [Ob 1 (.box (.t 0) 4),Ob 2 (.mov (Ci 0))])
 (.seq (.seq (.region [Ob 3 (.load (.t 1) (some 4)),Ob 4 (.call 65 [(.t 3)]),Ob 5 (.not (.t 4))])
 (.cond (.t 5) (.seq (.region [Ob 2 (.mov (Ci 100))])
 (.ret))
 (.skip)))
 (.seq (.region [Ob 2 (.mov (Ci 0))])
 (.ret)))
def r31 : List Res := [.t 2]
def a31 : AFn := ⟨1, c31, r31,.v⟩

def c32 : ACode := .seq (.region [Ob 1 (.box (.t 0) 4),Ob 2 (.mov (Ci 0)),Ob 3 (.mov (Ci 0)),Ob 4 (.mov (Ci 0))])
 (.seq (.seq (.region [Ob 12 (.load (.t 1) (some 4)),Ob 13 (.call 29 [(.t 12)]),Ob 5 (.mov (.t 13))])
 (.seq (.region [Ob 14 (.mov (.t 5)),Ob 15 (.bin .neq (.t 14) (Ci 0))])
 (.cond (.t 15) (.seq (.region [Ob 16 (.mov (.t 5)),Ob 2 (.mov (Ci 0)),Ob 3 (.mov (Ci 0)),Ob 4 (.mov (.t 16))])
 (.ret))
 (.skip))))
 (.seq (.region [Ob 17 (.addr (.t 1) 0),Ob 18 (.load (.t 17) none),Ob 19 (.len (.t 18)),Ob 20 (.make (.int .i64 0) 3 1 8 (.t 19) (.t 19)),Ob 6 (.mov (.t 20))])
 (.seq (.seq (.region [Ob 7 (.mov (Ci 0))])
 (.block 0 (.loop (.seq (.seq (.region [Ob 21 (.mov (.t 7)),Ob 22 (.addr (.t 1) 3),Ob 23 (.load (.t 22) none),Ob 24 (.len (.t 23)),Ob 25 (.bin .lss (.t 21) (.t 24))])
 (.cond (.t 25) (.skip)
 (.exit 0)))
 (.seq (.block 1 (.seq (.region [Ob 28 (.addr (.t 1) 3),Ob 29 (.load (.t 28) none),Ob 30 (.mov (.t 7)),Ob 31 (.idx (.t 29) (.t 30) 6),Ob 32 (.load (.t 31) (some 6)),Ob 8 (.new (.agg [(.sl [] .tight), (.int .i64 0), (.int .i64 0), (.int .i64 0), (.int .i64 0), (.int .i64 0)]) 6),On (.store (.t 8) (.t 32) 6)])
 (.seq (.seq (.region [Ob 33 (.addr (.t 8) 0),Ob 34 (.load (.t 33) none),Ob 35 (.call 55 [(.t 34)]),Ob 36 (.load (.t 8) (some 6)),Ob 37 (.call 26 [(.t 36)]),Ob 38 (.bin .neq (.t 35) (.t 37))])
 (.cond (.t 38) (.seq (.region [Ob 39 (.mov (.t 7)),Ob 2 (.mov (Ci 1)),Ob 3 (.mov (.t 39)),Ob 4 (.mov (Ci 0))])
 (.ret))
 (.skip)))
 (.seq (.seq (.region [Ob 40 (.load (.t 1) (some 4)),Ob 41 (.mov (.t 7)),Ob 42 (.addr (.t 8) 0),Ob 43 (.load (.t 42) none),Ob 44 (.call 25 [(.t 40), (.t 41), (.t 43)]),Ob 45 (.addr (.t 8) 5),Ob 46 (.load (.t 45) none),Ob 47 (.bin .neq (.t 44) (.t 46))])
 (.cond (.t 47) (.seq (.region [Ob 48 (.mov (.t 7)),Ob 2 (.mov (Ci 2)),Ob 3 (.mov (.t 48)),Ob 4 (.mov (Ci 0))])
 (.ret))
 (.skip)))
 (.seq (.region [Ob 9 (.mov (Ci 0))])
 (.block 2 (.loop (.seq (.seq (.region [Ob 49 (.mov (.t 9)),Ob 50 (.mov (.t 6)),Ob 51 (.len (.t 50)),Ob 52 (.bin .lss (.t 49) (.t 51))])
 (.cond (.t 52) (.skip)
 (.exit 2)))
 (.seq (.block 3 (.region [Ob 55 (.mov (.t 6)),Ob 56 (.mov (.t 9)),Ob 57 (.idx (.t 55) (.t 56) 1),Ob 58 (.load (.t 57) none),Ob 59 (.addr (.t 8) 0),Ob 60 (.load (.t 59) none),Ob 61 (.mov (.t 9)),Ob 62 (.idx (.t 60) (.t 61) 1),Ob 63 (.load (.t 62) none),Ob 64 (.bin .add (.t 58) (.t 63)),Ob 65 (.idx (.t 55) (.t 56) 1),On (.store (.t 65) (.t 64) 1)]))
 (.region [Ob 53 (.mov (.t 9)),Ob 54 (.bin .add (.t 53) (Ci 1)),Ob 9 (.mov (.t 54))]))))))))))
 (.region [Ob 26 (.mov (.t 7)),Ob 27 (.bin .add (.t 26) (Ci 1)),Ob 7 (.mov (.t 27))]))))))
 (.seq (.seq (.region [Ob 10 (.mov (Ci 0))])
 (.block 4 (.loop (.seq (.seq (.region [Ob 66 (.mov (.t 10)),Ob 67 (.mov (.t 6)),Ob 68 (.len (.t 67)),Ob 69 (.bin .lss (.t 66) (.t 68))])
 (.cond (.t 69) (.skip)
 (.exit 4)))
 (.seq (.block 5 (.seq (.region [Ob 72 (.mov (.t 6)),Ob 73 (.mov (.t 10)),Ob 74 (.idx (.t 72) (.t 73) 1),Ob 75 (.load (.t 74) none),Ob 76 (.addr (.t 1) 1),Ob 77 (.load (.t 76) none),Ob 78 (.mov (.t 10)),Ob 79 (.idx (.t 77) (.t 78) 1),Ob 80 (.load (.t 79) none),Ob 81 (.bin .neq (.t 75) (.t 80))])
 (.cond (.t 81) (.seq (.region [Ob 82 (.mov (.t 10)),Ob 2 (.mov (Ci 3)),Ob 3 (.mov (.t 82)),Ob 4 (.mov (Ci 0))])
 (.ret))
 (.skip))))
 (.region [Ob 70 (.mov (.t 10)),Ob 71 (.bin .add (.t 70) (Ci 1)),Ob 10 (.mov (.t 71))]))))))
 (.seq (.seq (.region [Ob 11 (.mov (Ci 0))])
 (.block 6 (.loop (.seq (.seq (.region [Ob 83 (.mov (.t 11)),Ob 84 (.mov (.t 6)),Ob 85 (.len (.t 84)),Ob 86 (.bin .lss (.t 83) (.t 85))])
 (.cond (.t 86) (.skip)
 (.exit 6)))
 (.seq (.block 7 (.seq (.region [Ob 89 (.addr (.t 1) 2),Ob 90 (.load (.t 89) none),Ob 91 (.mov (.t 11)),Ob 92 (.idx (.t 90) (.t 91) 1),Ob 93 (.load (.t 92) none),Ob 94 (.addr (.t 1) 1),Ob 95 (.load (.t 94) none),Ob 96 (.mov (.t 11)),Ob 97 (.idx (.t 95) (.t 96) 1),Ob 98 (.load (.t 97) none),Ob 99 (.bin .gtr (.t 93) (.t 98))])
 (.cond (.t 99) (.seq (.region [Ob 100 (.mov (.t 11)),Ob 2 (.mov (Ci 4)),Ob 3 (.mov (.t 100)),Ob 4 (.mov (Ci 0))])
 (.ret))
 (.skip))))
 (.region [Ob 87 (.mov (.t 11)),Ob 88 (.bin .add (.t 87) (Ci 1)),Ob 11 (.mov (.t 88))]))))))
 (.seq (.region [Ob 2 (.mov (Ci 0)),Ob 3 (.mov (Ci (-1))),Ob 4 (.mov (Ci 0))])
 (.ret)))))))
def r32 : List Res := [.t 2,.t 3,.t 4]
def a32 : AFn := ⟨1, c32, r32,.v⟩

def c33 : ACode := .seq (.region [Ob 1 (.box (.t 0) 4),Ob 2 (.mov (.c (.sl [] .tight))),Ob 3 (.mov (Ci 0))])
 (.seq (.seq (.region [Ob 8 (.load (.t 1) (some 4)),Ob 9 (.call 31 [(.t 8)]),Ob 4 (.mov (.t 9))])
 (.seq (.region [Ob 10 (.mov (.t 4)),Ob 11 (.bin .neq (.t 10) (Ci 0))])
 (.cond (.t 11) (.seq (.region [Ob 12 (.mov (.t 4)),Ob 2 (.mov (.c (.sl [] .tight))),Ob 3 (.mov (.t 12))])
 (.ret))
 (.skip))))
 (.seq (.region [Ob 5 (.mov (.c (.sl [] .tight)))])
 (.seq (.seq (.region [Ob 13 (.addr (.t 1) 1),Ob 14 (.load (.t 13) none),Ob 15 (.len (.t 14)),Ob 16 (.mov (Ci 0))])
 (.block 0 (.loop (.seq (.region [Ob 17 (.bin .lss (.t 16) (.t 15))])
 (.seq (.cond (.t 17) (.skip)
 (.exit 0))
 (.seq (.block 1 (.seq (.region [Ob 18 (.mov (.t 16)),Ob 19 (.idx (.t 14) (.t 16) 1),Ob 20 (.load (.t 19) none),Ob 6 (.mov (.t 18)),Ob 7 (.mov (.t 20))])
 (.seq (.seq (.region [Ob 21 (.addr (.t 1) 2),Ob 22 (.load (.t 21) none),Ob 23 (.mov (.t 6)),Ob 24 (.idx (.t 22) (.t 23) 1),Ob 25 (.load (.t 24) none),Ob 26 (.mov (.t 7)),Ob 27 (.bin .gtr (.t 25) (.t 26))])
 (.cond (.t 27) (.seq (.region [Ob 2 (.mov (.c (.sl [] .tight))),Ob 3 (.mov (Ci 3))])
 (.ret))
 (.skip)))
 (.region [Ob 28 (.mov (.t 5)),Ob 29 (.mov (.t 7)),Ob 30 (.addr (.t 1) 2),Ob 31 (.load (.t 30) none),Ob 32 (.mov (.t 6)),Ob 33 (.idx (.t 31) (.t 32) 1),Ob 34 (.load (.t 33) none),Ob 35 (.bin .sub (.t 29) (.t 34)),Ob 36 (.lit false 3 1 [(.t 35)]),Ob 37 (.app false (.t 28) (.t 36) 3 1 8),Ob 5 (.mov (.t 37))]))))
 (.region [Ob 38 (.bin .add (.t 16) (Ci 1)),Ob 16 (.mov (.t 38))])))))))
 (.seq (.region [Ob 39 (.mov (.t 5)),Ob 2 (.mov (.t 39)),Ob 3 (.mov (Ci 0))])
 (.ret)))))
def r33 : List Res := [.t 2,.t 3]
def a33 : AFn := ⟨1, c33, r33,.v⟩

def c34 : ACode := .seq (.region [Ob 1 (.box (.t 0) 4),Ob 2 (.mov (.c (.sl [] .tight))),Ob 3 (.mov (Ci 0))])
 (.seq (.seq (.region [Ob 7 (.load (.t 1) (some 4)),Ob 8 (.call 29 [(.t 7)]),Ob 4 (.mov (.t 8))])
 (.seq (.region [Ob 9 (.mov (.t 4)),Ob 10 (.bin .neq (.t 9) (Ci 0))])
 (.cond (.t 10) (.seq (.region [Ob 11 (.mov (.t 4)),Ob 2 (.mov (.c (.sl [] .tight))),Ob 3 (.mov (.t 11))])
 (.ret))
 (.skip))))
 (.seq (.region [Ob 5 (.mov (.c (.sl [] .tight)))])
 (.seq (.seq (.region [Ob 6 (.mov (Ci 0))])
 (.block 0 (.loop (.seq (.seq (.region [Ob 12 (.mov (.t 6)),Ob 13 (.addr (.t 1) 1),Ob 14 (.load (.t 13) none),Ob 15 (.len (.t 14)),Ob 16 (.bin .lss (.t 12) (.t 15))])
 (.cond (.t 16) (.skip)
 (.exit 0)))
 (.seq (.block 1 (.seq (.seq (.region [Ob 19 (.addr (.t 1) 2),Ob 20 (.load (.t 19) none),Ob 21 (.mov (.t 6)),Ob 22 (.idx (.t 20) (.t 21) 1),Ob 23 (.load (.t 22) none),Ob 24 (.addr (.t 1) 1),Ob 25 (.load (.t 24) none),Ob 26 (.mov (.t 6)),Ob 27 (.idx (.t 25) (.t 26) 1),Ob 28 (.load (.t 27) none),Ob 29 (.bin .gtr (.t 23) (.t 28))])
 (.cond (.t 29) (.seq (.region [Ob 2 (.mov (.c (.sl [] .tight))),Ob 3 (.mov (Ci 3))])
 (.ret))
 (.skip)))
 (.region [Ob 30 (.mov (.t 5)),Ob 31 (.addr (.t 1) 1),Ob 32 (.load (.t 31) none),Ob 33 (.mov (.t 6)),Ob 34 (.idx (.t 32) (.t 33) 1),Ob 35 (.load (.t 34) none),Ob 36 (.addr (.t 1) 2),Ob 37 (.load (.t 36) none),Ob 38 (.mov (.t 6)),Ob 39 (.idx (.t 37) (.t 38) 1),Ob 40 (.load (.t 39) none),Ob 41 (.bin .sub (.t 35) (.t 40)),Ob 42 (.lit false 3 1 [(.t 41)]),Ob 43 (.app false (.t 30) (.t 42) 3 1 8),Ob 5 (.mov (.t 43))])))
 (.region [Ob 17 (.mov (.t 6)),Ob 18 (.bin .add (.t 17) (Ci 1)),Ob 6 (.mov (.t 18))]))))))
 (.seq (.region [Ob 44 (.mov (.t 5)),Ob 2 (.mov (.t 44)),Ob 3 (.mov (Ci 0))])
 (.ret)))))
def r34 : List Res := [.t 2,.t 3]
def a34 : AFn := ⟨1, c34, r34,.v⟩

def c35 : ACode := .seq (.region [Ob 4 (.mov (.c (.bool false)))])
 (.seq (.seq (.region [Ob 6 (.mov (.t 0)),Ob 7 (.len (.t 6)),Ob 8 (.mov (.t 1)),Ob 9 (.len (.t 8)),Ob 10 (.bin .neq (.t 7) (.t 9))])
 (.cond (.t 10) (.seq (.region [Ob 4 (.mov (.c (.bool false)))])
 (.ret))
 (.skip)))
 (.seq (.seq (.region [Ob 5 (.mov (Ci 0))])
 (.block 0 (.loop (.seq (.seq (.region [Ob 11 (.mov (.t 5)),Ob 12 (.mov (.t 0)),Ob 13 (.len (.t 12)),Ob 14 (.bin .lss (.t 11) (.t 13))])
 (.cond (.t 14) (.skip)
 (.exit 0)))
 (.seq (.block 1 (.seq (.region [Ob 17 (.mov (.t 0)),Ob 18 (.mov (.t 5)),Ob 19 (.idx (.t 17) (.t 18) 1),Ob 20 (.load (.t 19) none),Ob 21 (.mov (.t 1)),Ob 22 (.mov (.t 5)),Ob 23 (.idx (.t 21) (.t 22) 1),Ob 24 (.load (.t 23) none),Ob 25 (.bin .neq (.t 20) (.t 24))])
 (.cond (.t 25) (.seq (.region [Ob 4 (.mov (.c (.bool false)))])
 (.ret))
 (.skip))))
 (.region [Ob 15 (.mov (.t 5)),Ob 16 (.bin .add (.t 15) (Ci 1)),Ob 5 (.mov (.t 16))]))))))
 (.seq (.region [Ob 4 (.mov (.c (.bool true)))])
 (.ret))))
def r35 : List Res := [.t 4]
def a35 : AFn := ⟨2, c35, r35,.v⟩

def c36 : ACode := .seq (.region [Ob 2 (.box (.t 0) 4),Ob 3 (.box (.t 1) 4),Ob 4 (.mov (.c (.bool false)))])
 (.seq (.seq (.region [Ob 8 (.addr (.t 2) 0),Ob 9 (.load (.t 8) none),Ob 10 (.addr (.t 3) 0),Ob 11 (.load (.t 10) none),Ob 12 (.call 35 [(.t 9), (.t 11)]),Ob 13 (.not (.t 12)),Ob 14 (.mov (.t 13)),Og 15 14 false (.addr (.t 2) 1),Og 16 14 false (.load (.t 15) none),Og 17 14 false (.addr (.t 3) 1),Og 18 14 false (.load (.t 17) none),Og 19 14 false (.call 35 [(.t 16), (.t 18)]),Og 20 14 false (.not (.t 19)),Ob 21 (.pick (.t 14) (.c (.bool true)) (.t 20)),Ob 22 (.mov (.t 21)),Og 23 22 false (.addr (.t 2) 2),Og 24 22 false (.load (.t 23) none),Og 25 22 false (.addr (.t 3) 2),Og 26 22 false (.load (.t 25) none),Og 27 22 false (.call 35 [(.t 24), (.t 26)]),Og 28 22 false (.not (.t 27)),Ob 29 (.pick (.t 22) (.c (.bool true)) (.t 28)),Ob 30 (.mov (.t 29)),Og 31 30 false (.addr (.t 2) 3),Og 32 30 false (.load (.t 31) none),Og 33 30 false (.len (.t 32)),Og 34 30 false (.addr (.t 3) 3),Og 35 30 false (.load (.t 34) none),Og 36 30 false (.len (.t 35)),Og 37 30 false (.bin .neq (.t 33) (.t 36)),Ob 38 (.pick (.t 30) (.c (.bool true)) (.t 37))])
 (.cond (.t 38) (.seq (.region [Ob 4 (.mov (.c (.bool false)))])
 (.ret))
 (.skip)))
 (.seq (.seq (.region [Ob 5 (.mov (Ci 0))])
 (.block 0 (.loop (.seq (.seq (.region [Ob 39 (.mov (.t 5)),Ob 40 (.addr (.t 2) 3),Ob 41 (.load (.t 40) none),Ob 42 (.len (.t 41)),Ob 43 (.bin .lss (.t 39) (.t 42))])
 (.cond (.t 43) (.skip)
 (.exit 0)))
 (.seq (.block 1 (.seq (.region [Ob 46 (.addr (.t 2) 3),Ob 47 (.load (.t 46) none),Ob 48 (.mov (.t 5)),Ob 49 (.idx (.t 47) (.t 48) 6),Ob 50 (.load (.t 49) (some 6)),Ob 51 (.addr (.t 3) 3),Ob 52 (.load (.t 51) none),Ob 53 (.mov (.t 5)),Ob 54 (.idx (.t 52) (.t 53) 6),Ob 55 (.load (.t 54) (some 6)),On (.mov (.c .undef)),On (.mov (.c .undef)),Ob 6 (.box (.t 50) 6),Ob 7 (.box (.t 55) 6)])
 (.seq (.region [Ob 56 (.addr (.t 6) 0),Ob 57 (.load (.t 56) none),Ob 58 (.addr (.t 7) 0),Ob 59 (.load (.t 58) none),Ob 60 (.call 35 [(.t 57), (.t 59)]),Ob 61 (.not (.t 60)),Ob 62 (.mov (.t 61)),Og 63 62 false (.addr (.t 6) 1),Og 64 62 false (.load (.t 63) none),Og 65 62 false (.addr (.t 7) 1),Og 66 62 false (.load (.t 65) none),Og 67 62 false (.bin .neq (.t 64) (.t 66)),Ob 68 (.pick (.t 62) (.c (.bool true)) (.t 67)),Ob 69 (.mov (.t 68)),Og 70 69 false (.addr (.t 6) 2),Og 71 69 false (.load (.t 70) none),Og 72 69 false (.addr (.t 7) 2),Og 73 69 false (.load (.t 72) none),Og 74 69 false (.bin .neq (.t 71) (.t 73)),Ob 75 (.pick (.t 69) (.c (.bool true)) (.t 74)),Ob 76 (.mov (.t 75)),Og 77 76 false (.addr (.t 6) 3),Og 78 76 false (.load (.t 77) none),Og 79 76 false (.addr (.t 7) 3),Og 80 76 false (.load (.t 79) none),Og 81 76 false (.bin .neq (.t 78) (.t 80)),Ob 82 (.pick (.t 76) (.c (.bool true)) (.t 81)),Ob 83 (.mov (.t 82)),Og 84 83 false (.addr (.t 6) 4),Og 85 83 false (.load (.t 84) none),Og 86 83 false (.addr (.t 7) 4),Og 87 83 false (.load (.t 86) none),Og 88 83 false (.bin .neq (.t 85) (.t 87)),Ob 89 (.pick (.t 83) (.c (.bool true)) (.t 88)),Ob 90 (.mov (.t 89)),Og 91 90 false (.addr (.t 6) 5),Og 92 90 false (.load (.t 91) none),Og 93 90 false (.addr (.t 7) 5),Og 94 90 false (.load (.t 93) none),Og 95 90 false (.bin .neq (.t 92) (.t 94)),Ob 96 (.pick (.t 90) (.c (.bool true)) (.t 95))])
 (.cond (.t 96) (.seq (.region [Ob 4 (.mov (.c (.bool false)))])
 (.ret))
 (.skip)))))
 (.region [Ob 44 (.mov (.t 5)),Ob 45 (.bin .add (.t 44) (Ci 1)),Ob 5 (.mov (.t 45))]))))))
 (.seq (.region [Ob 4 (.mov (.c (.bool true)))])
 (.ret))))
def r36 : List Res := [.t 4]
def a36 : AFn := ⟨2, c36, r36,.v⟩

def c37 : ACode := .seq (.region [Ob 1 (.box (.t 0) 4),Ob 2 (.mov (Ci 0)),Ob 3 (.mov (Ci 0))])
 (.seq (.region [Ob 8 (.load (.t 1) (some 4)),Ob 9 (.call 66 [(.t 8), (Ci 0), (Ci 0)]),Ob 7 (.mov (.t 9)),Ob 10 (.ext (.t 7) 0),Ob 11 (.ext (.t 7) 1),Ob 12 (.ext (.t 7) 2),Ob 4 (.mov (.t 10)),Ob 5 (.mov (.t 11)),Ob 6 (.mov (.t 12))])
 (.seq (.region [Ob 13 (.mov (.t 5)),Ob 14 (.mov (.t 6)),Ob 2 (.mov (.t 13)),Ob 3 (.mov (.t 14))])
 (.ret)))
def r37 : List Res := [.t 2,.t 3]
def a37 : AFn := ⟨1, c37, r37,.v⟩

def c38 : ACode := .seq (.region [Ob 1 (.box (.t 0) 4),Ob 2 (.mov (.c (.sl [] .tight))),Ob 3 (.mov (Ci 0))])
 (.seq (.region [Ob 8 (.load (.t 1) (some 4)),Ob 9 (.call 66 [(.t 8), (Ci 0), (Ci 0)]),Ob 7 (.mov (.t 9)),Ob 10 (.ext (.t 7) 0),Ob 11 (.ext (.t 7) 1),Ob 12 (.ext (.t 7) 2),Ob 4 (.mov (.t 10)),Ob 5 (.mov (.t 11)),Ob 6 (.mov (.t 12))])
 (.seq (.seq (.region [Ob 13 (.mov (.t 6)),Ob 14 (.bin .neq (.t 13) (Ci 0))])
 (.cond (.t 14) (.seq (.region [Ob 15 (.mov (.t 6)),Ob 2 (.mov (.c (.sl [] .tight))),Ob 3 (.mov (.t 15))])
 (.ret))
 (.skip)))
 (.seq (.region [Ob 16 (.load (.t 1) (some 4)),Ob 17 (.mov (.t 4)),Ob 18 (.call 67 [(.t 16), (.t 17), (.c (.bool true))]),Ob 2 (.mov (.t 18)),Ob 3 (.mov (Ci 0))])
 (.ret))))
def r38 : List Res := [.t 2,.t 3]
def a38 : AFn := ⟨1, c38, r38,.v⟩

def c39 : ACode := .seq (.region [Ob 1 (.box (.t 0) 4),Ob 2 (.mov (.c (.sl [] .tight))),Ob 3 (.mov (Ci 0))])
 (.seq (.region [Ob 8 (.load (.t 1) (some 4)),Ob 9 (.call 66 [(.t 8), (Ci 0), (Ci 0)]),Ob 7 (.mov (.t 9)),Ob 10 (.ext (.t 7) 0),Ob 11 (.ext (.t 7) 1),Ob 12 (.ext (.t 7) 2),Ob 4 (.mov (.t 10)),Ob 5 (.mov (.t 11)),Ob 6 (.mov (.t 12))])
 (.seq (.seq (.region [Ob 13 (.mov (.t 6)),Ob 14 (.bin .neq (.t 13) (Ci 0))])
 (.cond (.t 14) (.seq (.region [Ob 15 (.mov (.t 6)),Ob 2 (.mov (.c (.sl [] .tight))),Ob 3 (.mov (.t 15))])
 (.ret))
 (.skip)))
 (.seq (.region [Ob 16 (.load (.t 1) (some 4)),Ob 17 (.mov (.t 4)),Ob 18 (.call 67 [(.t 16), (.t 17), (.c (.bool false))]),Ob 2 (.mov (.t 18)),Ob 3 (.mov (Ci 0))])
 (.ret))))
def r39 : List Res := [.t 2,.t 3]
def a39 : AFn := ⟨1, c39, r39,.v⟩

def c40 : ACode := .seq (.region [Ob 3 (.box (.t 0) 4),Ob 6 (.new (.agg [(.int .i64 0), (.int .i64 0)]) 2),Ob 7 (.mov (Ci 0))])
 (.seq (.region [Ob 15 (.load (.t 3) (some 4)),Ob 16 (.mov (.t 1)),Ob 17 (.mov (.t 2)),Ob 18 (.call 66 [(.t 15), (.t 16), (.t 17)]),Ob 14 (.mov (.t 18)),Ob 19 (.ext (.t 14) 0),Ob 20 (.ext (.t 14) 1),Ob 21 (.ext (.t 14) 2),Ob 8 (.mov (.t 19)),Ob 9 (.mov (.t 20)),Ob 10 (.mov (.t 21))])
 (.seq (.seq (.region [Ob 22 (.mov (.t 10)),Ob 23 (.bin .neq (.t 22) (Ci 0))])
 (.cond (.t 23) (.seq (.region [Ob 24 (.build [(.int .i64 0), (.int .i64 0)] []),Ob 25 (.mov (.t 10)),On (.store (.t 6) (.t 24) 2),Ob 7 (.mov (.t 25))])
 (.ret))
 (.skip)))
 (.seq (.region [Ob 26 (.mov (.t 8)),Ob 27 (.idx (.t 26) (Ci 0) 1),Ob 28 (.load (.t 27) none),Ob 29 (.mov (.t 1)),Ob 30 (.idx (.t 28) (.t 29) 1),Ob 31 (.load (.t 30) none),Ob 32 (.mov (.t 2)),Ob 33 (.idx (.t 31) (.t 32) 1),Ob 34 (.load (.t 33) none),Ob 35 (.mov (.t 8)),Ob 36 (.idx (.t 35) (Ci 0) 1),Ob 37 (.load (.t 36) none),Ob 38 (.mov (.t 1)),Ob 39 (.idx (.t 37) (.t 38) 1),Ob 40 (.load (.t 39) none),Ob 41 (.mov (.t 2)),Ob 42 (.idx (.t 40) (.t 41) 1),Ob 43 (.load (.t 42) none),Ob 44 (.build [(.int .i64 0), (.int .i64 0)] [(0, 1, (.t 34)), (1, 1, (.t 43))]),Ob 11 (.new (.agg [(.int .i64 0), (.int .i64 0)]) 2),On (.store (.t 11) (.t 44) 2)])
 (.seq (.seq (.region [Ob 12 (.mov (Ci 0))])
 (.block 0 (.loop (.seq (.seq (.region [Ob 45 (.mov (.t 12)),Ob 46 (.mov (.t 8)),Ob 47 (.len (.t 46)),Ob 48 (.bin .lss (.t 45) (.t 47))])
 (.cond (.t 48) (.skip)
 (.exit 0)))
 (.seq (.block 1 (.seq (.region [Ob 51 (.mov (.t 8)),Ob 52 (.mov (.t 12)),Ob 53 (.idx (.t 51) (.t 52) 1),Ob 54 (.load (.t 53) none),Ob 55 (.mov (.t 1)),Ob 56 (.idx (.t 54) (.t 55) 1),Ob 57 (.load (.t 56) none),Ob 58 (.mov (.t 2)),Ob 59 (.idx (.t 57) (.t 58) 1),Ob 60 (.load (.t 59) none),Ob 13 (.mov (.t 60))])
 (.region [Ob 61 (.addr (.t 11) 0),Ob 62 (.load (.t 61) none),Ob 63 (.mov (.t 13)),Ob 64 (.mnx false (.t 62) (.t 63)),Ob 65 (.addr (.t 11) 1),Ob 66 (.load (.t 65) none),Ob 67 (.mov (.t 13)),Ob 68 (.mnx true (.t 66) (.t 67)),Ob 69 (.build [(.int .i64 0), (.int .i64 0)] [(0, 1, (.t 64)), (1, 1, (.t 68))]),On (.store (.t 11) (.t 69) 2)])))
 (.region [Ob 49 (.mov (.t 12)),Ob 50 (.bin .add (.t 49) (Ci 1)),Ob 12 (.mov (.t 50))]))))))
 (.seq (.region [Ob 70 (.load (.t 11) (some 2)),On (.store (.t 6) (.t 70) 2),Ob 7 (.mov (Ci 0))])
 (.ret))))))
def r40 : List Res := [.cell 6 (some 2),.t 7]
def a40 : AFn := ⟨3, c40, r40,.v⟩

def c41 : ACode := .seq (.region [Ob 2 (.box (.t 0) 4),Ob 4 (.new (.agg [(.int .i64 0), (.int .i64 0)]) 2),Ob 5 (.mov (Ci 0))])
 (.seq (.region [Ob 14 (.load (.t 2) (some 4)),Ob 15 (.mov (.t 1)),Ob 16 (.call 66 [(.t 14), (.t 15), (Ci 0)]),Ob 13 (.mov (.t 16)),Ob 17 (.ext (.t 13) 0),Ob 18 (.ext (.t 13) 1),Ob 19 (.ext (.t 13) 2),Ob 6 (.mov (.t 17)),Ob 7 (.mov (.t 18)),Ob 8 (.mov (.t 19))])
 (.seq (.seq (.region [Ob 20 (.mov (.t 8)),Ob 21 (.bin .neq (.t 20) (Ci 0))])
 (.cond (.t 21) (.seq (.region [Ob 22 (.build [(.int .i64 0), (.int .i64 0)] []),Ob 23 (.mov (.t 8)),On (.store (.t 4) (.t 22) 2),Ob 5 (.mov (.t 23))])
 (.ret))
 (.skip)))
 (.seq (.region [Ob 24 (.load (.t 2) (some 4)),Ob 25 (.mov (.t 1)),Ob 26 (.mov (.t 6)),Ob 27 (.idx (.t 26) (Ci 0) 1),Ob 28 (.load (.t 27) none),Ob 29 (.mov (.t 1)),Ob 30 (.idx (.t 28) (.t 29) 1),Ob 31 (.load (.t 30) none),Ob 32 (.call 25 [(.t 24), (.t 25), (.t 31)]),Ob 33 (.addr (.t 2) 3),Ob 34 (.load (.t 33) none),Ob 35 (.mov (.t 1)),Ob 36 (.idx (.t 34) (.t 35) 6),Ob 37 (.addr (.t 36) 5),Ob 38 (.load (.t 37) none),Ob 39 (.bin .sub (.t 32) (.t 38)),Ob 9 (.mov (.t 39))])
 (.seq (.region [Ob 40 (.mov (.t 9)),Ob 41 (.mov (.t 9)),Ob 42 (.build [(.int .i64 0), (.int .i64 0)] [(0, 1, (.t 40)), (1, 1, (.t 41))]),Ob 10 (.new (.agg [(.int .i64 0), (.int .i64 0)]) 2),On (.store (.t 10) (.t 42) 2)])
 (.seq (.seq (.region [Ob 11 (.mov (Ci 0))])
 (.block 0 (.loop (.seq (.seq (.region [Ob 43 (.mov (.t 11)),Ob 44 (.mov (.t 6)),Ob 45 (.len (.t 44)),Ob 46 (.bin .lss (.t 43) (.t 45))])
 (.cond (.t 46) (.skip)
 (.exit 0)))
 (.seq (.block 1 (.seq (.region [Ob 49 (.load (.t 2) (some 4)),Ob 50 (.mov (.t 1)),Ob 51 (.mov (.t 6)),Ob 52 (.mov (.t 11)),Ob 53 (.idx (.t 51) (.t 52) 1),Ob 54 (.load (.t 53) none),Ob 55 (.mov (.t 1)),Ob 56 (.idx (.t 54) (.t 55) 1),Ob 57 (.load (.t 56) none),Ob 58 (.call 25 [(.t 49), (.t 50), (.t 57)]),Ob 59 (.addr (.t 2) 3),Ob 60 (.load (.t 59) none),Ob 61 (.mov (.t 1)),Ob 62 (.idx (.t 60) (.t 61) 6),Ob 63 (.addr (.t 62) 5),Ob 64 (.load (.t 63) none),Ob 65 (.bin .sub (.t 58) (.t 64)),Ob 12 (.mov (.t 65))])
 (.region [Ob 66 (.addr (.t 10) 0),Ob 67 (.load (.t 66) none),Ob 68 (.mov (.t 12)),Ob 69 (.mnx false (.t 67) (.t 68)),Ob 70 (.addr (.t 10) 1),Ob 71 (.load (.t 70) none),Ob 72 (.mov (.t 12)),Ob 73 (.mnx true (.t 71) (.t 72)),Ob 74 (.build [(.int .i64 0), (.int .i64 0)] [(0, 1, (.t 69)), (1, 1, (.t 73))]),On (.store (.t 10) (.t 74) 2)])))
 (.region [Ob 47 (.mov (.t 11)),Ob 48 (.bin .add (.t 47) (Ci 1)),Ob 11 (.mov (.t 48))]))))))
 (.seq (.region [Ob 75 (.load (.t 10) (some 2)),On (.store (.t 4) (.t 75) 2),Ob 5 (.mov (Ci 0))])
 (.ret)))))))
def r41 : List Res := [.cell 4 (some 2),.t 5]
def a41 : AFn := ⟨2, c41, r41,.v⟩

def c42 : ACode := .seq (.region [Ob 1 (.box (.t 0) 4),Ob 2 (.mov (Ci 0))])
 (.seq (.region [Ob 7 (.load (.t 1) (some 4)),Ob 8 (.call 66 [(.t 7), (Ci 0), (Ci 0)]),Ob 6 (.mov (.t 8)),Ob 9 (.ext (.t 6) 0),Ob 10 (.ext (.t 6) 1),Ob 11 (.ext (.t 6) 2),Ob 3 (.mov (.t 9)),Ob 4 (.mov (.t 10)),Ob 5 (.mov (.t 11))])
 (.seq (.region [Ob 12 (.mov (.t 5)),Ob 2 (.mov (.t 12))])
 (.ret)))
def r42 : List Res := [.t 2]
def a42 : AFn := ⟨1, c42, r42,.v⟩

def c43 : ACode := .seq (.region [Ob 0 (.new (.agg [(.sl [] .tight), (.sl [] .tight), (.sl [] .tight), (.sl [] .tight)]) 4)])
 (.seq (.region [Ob 1 (.lit false 3 1 [(Ci 5), (Ci 8)]),Ob 2 (.lit false 3 1 [(Ci 7), (Ci 6)]),Ob 3 (.lit false 3 1 [(Ci 7), (Ci 5)]),Ob 4 (.lit false 3 1 [(Ci 4), (Ci 2)]),Ob 5 (.build [(.sl [] .tight), (.int .i64 0), (.int .i64 0), (.int .i64 0), (.int .i64 0), (.int .i64 0)] [(0, 1, (.t 4)), (1, 1, (Ci 100)), (2, 1, (Ci 106)), (4, 1, (Ci 10)), (5, 1, (Ci 46))]),Ob 6 (.lit false 3 1 [(Ci 3), (Ci 3)]),Ob 7 (.build [(.sl [] .tight), (.int .i64 0), (.int .i64 0), (.int .i64 0), (.int .i64 0), (.int .i64 0)] [(0, 1, (.t 6)), (1, 1, (Ci 200)), (2, 1, (Ci 208)), (3, 1, (Ci 1)), (5, 1, (Ci 47))]),Ob 8 (.lit false 40 6 [(.t 5), (.t 7)]),Ob 9 (.build [(.sl [] .tight), (.sl [] .tight), (.sl [] .tight), (.sl [] .tight)] [(0, 1, (.t 1)), (1, 1, (.t 2)), (2, 1, (.t 3)), (3, 1, (.t 8))]),On (.store (.t 0) (.t 9) 4)])
 (.ret))
def r43 : List Res := [.cell 0 (some 4)]
def a43 : AFn := ⟨0, c43, r43,.v⟩

def c44 : ACode := .seq (.region [Ob 1 (.box (.t 0) 4),Ob 2 (.mov (Ci 0)),Ob 3 (.mov (Ci 0))])
 (.seq (.region [Ob 4 (.new (.agg [(.int .i64 0), (.int .i64 0), (.int .i64 0)]) 3)])
 (.seq (.seq (.region [Ob 12 (.addr (.t 1) 3),Ob 13 (.load (.t 12) none),Ob 14 (.len (.t 13)),Ob 15 (.mov (Ci 0))])
 (.block 0 (.loop (.seq (.region [Ob 16 (.bin .lss (.t 15) (.t 14))])
 (.seq (.cond (.t 16) (.skip)
 (.exit 0))
 (.seq (.block 1 (.seq (.region [Ob 17 (.mov (.t 15)),Ob 18 (.idx (.t 13) (.t 15) 6),Ob 19 (.load (.t 18) (some 6)),Ob 6 (.new (.agg [(.sl [] .tight), (.int .i64 0), (.int .i64 0), (.int .i64 0), (.int .i64 0), (.int .i64 0)]) 6),Ob 5 (.mov (.t 17)),On (.store (.t 6) (.t 19) 6)])
 (.seq (.region [Ob 20 (.addr (.t 6) 0),Ob 21 (.load (.t 20) none),Ob 22 (.call 68 [(.t 21)]),Ob 7 (.new (.agg [(.int .i64 0), (.int .i64 0), (.int .i64 0)]) 3),On (.store (.t 7) (.t 22) 3)])
 (.seq (.block 2 (.seq (.region [Ob 24 (.load (.t 7) (some 3)),Ob 25 (.call 69 [(.t 24)]),Ob 26 (.load (.t 6) (some 6)),Ob 27 (.call 70 [(.t 26)]),Ob 28 (.bin .neq (.t 25) (.t 27)),Ob 23 (.mov (.t 28))])
 (.cond (.t 23) (.seq (.region [Ob 29 (.mov (.t 5)),Ob 2 (.mov (Ci 1)),Ob 3 (.mov (.t 29))])
 (.ret))
 (.seq (.region [Ob 31 (.load (.t 6) (some 6)),Ob 32 (.load (.t 7) (some 3)),Ob 33 (.addr (.t 1) 0),Ob 34 (.load (.t 33) none),Ob 35 (.call 68 [(.t 34)]),Ob 36 (.call 71 [(.t 31), (.t 32), (.t 35)]),Ob 37 (.bin .neq (.t 36) (Ci 0)),Ob 30 (.mov (.t 37))])
 (.cond (.t 30) (.seq (.region [Ob 38 (.mov (.t 5)),Ob 2 (.mov (Ci 2)),Ob 3 (.mov (.t 38))])
 (.ret))
 (.skip))))))
 (.region [Ob 39 (.load (.t 4) (some 3)),Ob 40 (.load (.t 7) (some 3)),Ob 41 (.call 72 [(.t 39), (.t 40)]),On (.store (.t 4) (.t 41) 3)])))))
 (.region [Ob 42 (.bin .add (.t 15) (Ci 1)),Ob 15 (.mov (.t 42))])))))))
 (.seq (.seq (.region [Ob 43 (.addr (.t 1) 1),Ob 44 (.load (.t 43) none),Ob 45 (.len (.t 44)),Ob 46 (.mov (Ci 0))])
 (.block 3 (.loop (.seq (.region [Ob 47 (.bin .lss (.t 46) (.t 45))])
 (.seq (.cond (.t 47) (.skip)
 (.exit 3))
 (.seq (.block 4 (.seq (.region [Ob 48 (.mov (.t 46)),Ob 49 (.idx (.t 44) (.t 46) 1),Ob 50 (.load (.t 49) none),Ob 8 (.mov (.t 48)),Ob 9 (.mov (.t 50))])
 (.seq (.region [Ob 51 (.mov (.t 8)),Ob 52 (.aidx (.t 4) (.t 51) 3 1),Ob 53 (.load (.t 52) none),Ob 54 (.mov (.t 9)),Ob 55 (.bin .neq (.t 53) (.t 54))])
 (.cond (.t 55) (.seq (.region [Ob 56 (.mov (.t 8)),Ob 2 (.mov (Ci 3)),Ob 3 (.mov (.t 56))])
 (.ret))
 (.skip)))))
 (.region [Ob 57 (.bin .add (.t 46) (Ci 1)),Ob 46 (.mov (.t 57))])))))))
 (.seq (.seq (.region [Ob 58 (.addr (.t 1) 2),Ob 59 (.load (.t 58) none),Ob 60 (.len (.t 59)),Ob 61 (.mov (Ci 0))])
 (.block 5 (.loop (.seq (.region [Ob 62 (.bin .lss (.t 61) (.t 60))])
 (.seq (.cond (.t 62) (.skip)
 (.exit 5))
 (.seq (.block 6 (.seq (.region [Ob 63 (.mov (.t 61)),Ob 64 (.idx (.t 59) (.t 61) 1),Ob 65 (.load (.t 64) none),Ob 10 (.mov (.t 63)),Ob 11 (.mov (.t 65))])
 (.seq (.region [Ob 66 (.mov (.t 11)),Ob 67 (.addr (.t 1) 1),Ob 68 (.load (.t 67) none),Ob 69 (.mov (.t 10)),Ob 70 (.idx (.t 68) (.t 69) 1),Ob 71 (.load (.t 70) none),Ob 72 (.bin .gtr (.t 66) (.t 71))])
 (.cond (.t 72) (.seq (.region [Ob 73 (.mov (.t 10)),Ob 2 (.mov (Ci 4)),Ob 3 (.mov (.t 73))])
 (.ret))
 (.skip)))))
 (.region [Ob 74 (.bin .add (.t 61) (Ci 1)),Ob 61 (.mov (.t 74))])))))))
 (.seq (.region [Ob 2 (.mov (Ci 0)),Ob 3 (.mov (Ci (-1)))])
 (.ret))))))
def r44 : List Res := [.t 2,.t 3]
def a44 : AFn := ⟨1, c44, r44,.v⟩

def c45 : ACode := .seq (.region [Ob 3 (.box (.t 0) 4),Ob 6 (.mov (Ci 0))])
 (.seq (.block 0 (.seq (.region [Ob 8 (.load (.t 3) (some 4)),Ob 9 (.call 65 [(.t 8)]),Ob 10 (.not (.t 9)),Ob 7 (.mov (.t 10))])
 (.cond (.t 7) (.seq (.region [Ob 6 (.mov (Ci 100))])
 (.ret))
 (.seq (.region [Ob 12 (.mov (.t 1)),Ob 13 (.addr (.t 3) 3),Ob 14 (.load (.t 13) none),Ob 15 (.len (.t 14)),Ob 16 (.bin .sub (.t 15) (Ci 1)),Ob 17 (.call 73 [(.t 12), (Ci 0), (.t 16)]),Ob 18 (.not (.t 17)),Ob 19 (.mov (.t 18)),Og 20 19 false (.mov (.t 2)),Og 21 19 false (.addr (.t 3) 0),Og 22 19 false (.load (.t 21) none),Og 23 19 false (.len (.t 22)),Og 24 19 false (.bin .sub (.t 23) (Ci 1)),Og 25 19 false (.call 73 [(.t 20), (Ci 0), (.t 24)]),Og 26 19 false (.not (.t 25)),Ob 27 (.pick (.t 19) (.c (.bool true)) (.t 26)),Ob 11 (.mov (.t 27))])
 (.cond (.t 11) (.seq (.region [Ob 6 (.mov (Ci 1))])
 (.ret))
 (.seq (.region [Ob 29 (.load (.t 3) (some 4)),Ob 30 (.call 74 [(.t 29)]),Ob 31 (.not (.t 30)),Ob 28 (.mov (.t 31))])
 (.cond (.t 28) (.seq (.region [Ob 6 (.mov (Ci 3))])
 (.ret))
 (.skip))))))))
 (.seq (.region [Ob 6 (.mov (Ci 0))])
 (.ret)))
def r45 : List Res := [.t 6]
def a45 : AFn := ⟨3, c45, r45,.v⟩

def c46 : ACode := .seq (.region [Ob 1 (.box (.t 0) 4),Ob 2 (.new (.agg [(.int .i64 0), (.int .i64 0), (.int .i64 0), (.sl [] .tight)]) 4)])
 (.seq (.region [Ob 6 (.addr (.t 1) 1),Ob 7 (.load (.t 6) none),Ob 8 (.call 68 [(.t 7)]),Ob 9 (.build [(.int .i64 0), (.int .i64 0), (.int .i64 0), (.sl [] .tight)] [(0, 3, (.t 8))]),Ob 3 (.new (.agg [(.int .i64 0), (.int .i64 0), (.int .i64 0), (.sl [] .tight)]) 4),On (.store (.t 3) (.t 9) 4)])
 (.seq (.seq (.region [Ob 10 (.addr (.t 1) 3),Ob 11 (.load (.t 10) none),Ob 12 (.len (.t 11)),Ob 13 (.mov (Ci 0))])
 (.block 0 (.loop (.seq (.region [Ob 14 (.bin .lss (.t 13) (.t 12))])
 (.seq (.cond (.t 14) (.skip)
 (.exit 0))
 (.seq (.block 1 (.seq (.region [Ob 15 (.idx (.t 11) (.t 13) 6),Ob 16 (.load (.t 15) (some 6)),Ob 5 (.new (.agg [(.sl [] .tight), (.int .i64 0), (.int .i64 0), (.int .i64 0), (.int .i64 0), (.int .i64 0)]) 6),On (.store (.t 5) (.t 16) 6)])
 (.region [Ob 17 (.addr (.t 3) 3),Ob 18 (.load (.t 17) none),Ob 19 (.load (.t 5) (some 6)),Ob 20 (.addr (.t 3) 0),Ob 21 (.load (.t 20) (some 3)),Ob 22 (.addr (.t 1) 0),Ob 23 (.load (.t 22) none),Ob 24 (.call 68 [(.t 23)]),Ob 25 (.call 75 [(.t 19), (.t 21), (.t 24)]),Ob 26 (.lit true 61 1 [(.t 25)]),Ob 27 (.app true (.t 18) (.t 26) 61 1 24),Ob 28 (.addr (.t 3) 3),On (.store (.t 28) (.t 27) 1)])))
 (.region [Ob 29 (.bin .add (.t 13) (Ci 1)),Ob 13 (.mov (.t 29))])))))))
 (.seq (.region [Ob 30 (.load (.t 3) (some 4)),On (.store (.t 2) (.t 30) 4)])
 (.ret))))
def r46 : List Res := [.cell 2 (some 4)]
def a46 : AFn := ⟨1, c46, r46,.r⟩

def c47 : ACode := .seq (.region [Ob 2 (.box (.t 0) 4),Ob 4 (.mov (.c (.sl [] .tight))),Ob 5 (.mov (Ci 0))])
 (.seq (.region [Ob 11 (.load (.t 2) (some 4)),Ob 12 (.mov (.t 1)),Ob 13 (.call 76 [(.t 11), (.t 12)]),Ob 6 (.mov (.t 13))])
 (.seq (.seq (.region [Ob 14 (.addr (.t 2) 3),Ob 15 (.load (.t 14) none),Ob 16 (.mov (.t 1)),Ob 17 (.idx (.t 15) (.t 16) 1),Ob 18 (.load (.t 17) none),Ob 19 (.len (.t 18)),Ob 20 (.mov (Ci 0))])
 (.block 0 (.loop (.seq (.region [Ob 21 (.bin .lss (.t 20) (.t 19))])
 (.seq (.cond (.t 21) (.skip)
 (.exit 0))
 (.seq (.block 1 (.seq (.region [Ob 22 (.idx (.t 18) (.t 20) 5),Ob 23 (.load (.t 22) (some 5)),Ob 8 (.new (.agg [(.int .i64 0), (.int .i64 0), (.int .i64 0), (.int .i64 0), (.int .i64 0)]) 5),On (.store (.t 8) (.t 23) 5)])
 (.seq (.region [Ob 25 (.mov (.t 6)),Ob 26 (.addr (.t 2) 0),Ob 27 (.load (.t 26) (some 3)),Ob 28 (.addr (.t 8) 0),Ob 29 (.load (.t 28) (some 3)),Ob 30 (.call 77 [(.t 27), (.t 29)]),Ob 31 (.mget (.n 3) (.int .i64 0) true (.t 25) (.t 30)),Ob 24 (.mov (.t 31)),Ob 32 (.ext (.t 24) 0),Ob 33 (.ext (.t 24) 1),Ob 9 (.mov (.t 32)),Ob 10 (.mov (.t 33))])
 (.seq (.seq (.region [Ob 34 (.mov (.t 10)),Ob 35 (.not (.t 34))])
 (.cond (.t 35) (.exit 1)
 (.skip)))
 (.seq (.region [Ob 36 (.mov (.t 9)),Ob 37 (.addr (.t 8) 3),Ob 38 (.load (.t 37) none),Ob 39 (.bin .add (.t 36) (.t 38)),Ob 9 (.mov (.t 39))])
 (.seq (.seq (.region [Ob 40 (.mov (.t 4)),Ob 41 (.len (.t 40)),Ob 42 (.bin .eql (.t 41) (Ci 0)),Ob 43 (.mov (.t 42)),Og 44 43 false (.mov (.t 9)),Og 45 43 false (.mov (.t 5)),Og 46 43 false (.bin .lss (.t 44) (.t 45)),Ob 47 (.pick (.t 43) (.c (.bool true)) (.t 46))])
 (.cond (.t 47) (.region [Ob 48 (.mov (.t 9)),Ob 4 (.mov (.c (.sl [] .tight))),Ob 5 (.mov (.t 48))])
 (.skip)))
 (.seq (.region [Ob 49 (.mov (.t 9)),Ob 50 (.mov (.t 5)),Ob 51 (.bin .eql (.t 49) (.t 50))])
 (.cond (.t 51) (.region [Ob 52 (.mov (.t 4)),Ob 53 (.load (.t 8) (some 5)),Ob 54 (.lit false 72 5 [(.t 53)]),Ob 55 (.app false (.t 52) (.t 54) 72 5 40),Ob 4 (.mov (.t 55))])
 (.skip)))))))))
 (.region [Ob 56 (.bin .add (.t 20) (Ci 1)),Ob 20 (.mov (.t 56))])))))))
 (.seq (.region [Ob 57 (.mov (.t 4)),Ob 58 (.mov (.t 5)),Ob 4 (.mov (.t 57)),Ob 5 (.mov (.t 58))])
 (.ret))))
def r47 : List Res := [.t 4,.t 5]
def a47 : AFn := ⟨2, c47, r47,.r⟩

def c48 : ACode := .seq (.region [Ob 4 (.box (.t 0) 4),Ob 8 (.new (.agg [(.int .i64 0), (.int .i64 0)]) 2),Ob 9 (.mov (Ci 0))])
 (.seq (.seq (.region [Ob 16 (.load (.t 4) (some 4)),Ob 17 (.mov (.t 1)),Ob 18 (.mov (.t 2)),Ob 19 (.call 45 [(.t 16), (.t 17), (.t 18)]),Ob 10 (.mov (.t 19))])
 (.seq (.region [Ob 20 (.mov (.t 10)),Ob 21 (.bin .neq (.t 20) (Ci 0))])
 (.cond (.t 21) (.seq (.region [Ob 22 (.build [(.int .i64 0), (.int .i64 0)] []),Ob 23 (.mov (.t 10)),On (.store (.t 8) (.t 22) 2),Ob 9 (.mov (.t 23))])
 (.ret))
 (.skip))))
 (.seq (.region [Ob 25 (.load (.t 4) (some 4)),Ob 26 (.call 46 [(.t 25)]),Ob 27 (.mov (.t 1)),Ob 28 (.call 47 [(.t 26), (.t 27)]),Ob 24 (.mov (.t 28)),Ob 29 (.ext (.t 24) 0),Ob 30 (.ext (.t 24) 1),Ob 11 (.mov (.t 29)),Ob 12 (.mov (.t 30))])
 (.seq (.region [Ob 31 (.mov (.t 3)),Ob 32 (.mov (.t 11)),Ob 33 (.idx (.t 32) (Ci 0) 5),Ob 34 (.load (.t 33) (some 5)),Ob 36 (.mov (.t 3)),Ob 37 (.mov (.t 11)),Ob 38 (.idx (.t 37) (Ci 0) 5),Ob 39 (.load (.t 38) (some 5)),On (.mov (.c .undef)),Ob 35 (.callz (.t 31) [(.t 34)]),Ob 40 (.callz (.t 36) [(.t 39)]),Ob 41 (.build [(.int .i64 0), (.int .i64 0)] [(0, 1, (.t 35)), (1, 1, (.t 40))]),Ob 13 (.box (.t 41) 2)])
 (.seq (.seq (.region [Ob 42 (.mov (.t 11)),Ob 43 (.len (.t 42)),Ob 44 (.mov (Ci 0))])
 (.block 0 (.loop (.seq (.region [Ob 45 (.bin .lss (.t 44) (.t 43))])
 (.seq (.cond (.t 45) (.skip)
 (.exit 0))
 (.seq (.block 1 (.seq (.region [Ob 46 (.idx (.t 42) (.t 44) 5),Ob 47 (.load (.t 46) (some 5)),Ob 15 (.new (.agg [(.int .i64 0), (.int .i64 0), (.int .i64 0), (.int .i64 0), (.int .i64 0)]) 5),On (.store (.t 15) (.t 47) 5)])
 (.region [Ob 48 (.addr (.t 13) 0),Ob 49 (.load (.t 48) none),Ob 50 (.mov (.t 3)),Ob 51 (.load (.t 15) (some 5)),Ob 52 (.callz (.t 50) [(.t 51)]),Ob 53 (.mnx false (.t 49) (.t 52)),Ob 54 (.addr (.t 13) 1),Ob 55 (.load (.t 54) none),Ob 56 (.mov (.t 3)),Ob 57 (.load (.t 15) (some 5)),Ob 58 (.callz (.t 56) [(.t 57)]),Ob 59 (.mnx true (.t 55) (.t 58)),Ob 60 (.addr (.t 13) 0),On (.store (.t 60) (.t 53) 1),Ob 61 (.addr (.t 13) 1),On (.store (.t 61) (.t 59) 1)])))
 (.region [Ob 62 (.bin .add (.t 44) (Ci 1)),Ob 44 (.mov (.t 62))])))))))
 (.seq (.region [Ob 63 (.load (.t 13) (some 2)),On (.store (.t 8) (.t 63) 2),Ob 9 (.mov (Ci 0))])
 (.ret))))))
def r48 : List Res := [.cell 8 (some 2),.t 9]
def a48 : AFn := ⟨4, c48, r48,.v⟩

def c49 : ACode := .seq (.region [Ob 2 (.box (.t 0) 5),Ob 3 (.mov (Ci 0))])
 (.seq (.region [Ob 4 (.load (.t 1) none),Ob 5 (.addr (.t 2) 0),Ob 6 (.aidx (.t 5) (.t 4) 3 1),Ob 7 (.load (.t 6) none),Ob 3 (.mov (.t 7))])
 (.ret))
def r49 : List Res := [.t 3]
def a49 : AFn := ⟨2, c49, r49,.v⟩

def c50 : ACode := .seq (.region [Ob 2 (.box (.t 0) 4),Ob 4 (.mov (.c (.sl [] .tight))),Ob 5 (.mov (Ci 0))])
 (.seq (.seq (.region [Ob 12 (.load (.t 2) (some 4)),Ob 13 (.call 45 [(.t 12), (Ci 0), (Ci 0)]),Ob 6 (.mov (.t 13))])
 (.seq (.region [Ob 14 (.mov (.t 6)),Ob 15 (.bin .neq (.t 14) (Ci 0))])
 (.cond (.t 15) (.seq (.region [Ob 16 (.mov (.t 6)),Ob 4 (.mov (.c (.sl [] .tight))),Ob 5 (.mov (.t 16))])
 (.ret))
 (.skip))))
 (.seq (.region [Ob 17 (.load (.t 2) (some 4)),Ob 18 (.call 46 [(.t 17)]),Ob 7 (.new (.agg [(.int .i64 0), (.int .i64 0), (.int .i64 0), (.sl [] .tight)]) 4),On (.store (.t 7) (.t 18) 4)])
 (.seq (.region [Ob 8 (.mov (.c (.sl [] .tight)))])
 (.seq (.seq (.region [Ob 19 (.addr (.t 7) 3),Ob 20 (.load (.t 19) none),Ob 21 (.len (.t 20)),Ob 22 (.mov (Ci 0))])
 (.block 0 (.loop (.seq (.region [Ob 23 (.bin .lss (.t 22) (.t 21))])
 (.seq (.cond (.t 23) (.skip)
 (.exit 0))
 (.seq (.block 1 (.seq (.region [Ob 24 (.mov (.t 22)),Ob 9 (.mov (.t 24))])
 (.seq (.region [Ob 26 (.load (.t 7) (some 4)),Ob 27 (.mov (.t 9)),Ob 28 (.call 47 [(.t 26), (.t 27)]),Ob 25 (.mov (.t 28)),Ob 29 (.ext (.t 25) 0),Ob 30 (.ext (.t 25) 1),Ob 10 (.mov (.t 29)),Ob 11 (.mov (.t 30))])
 (.seq (.region [Ob 31 (.mov (.t 1)),Ob 32 (.mov (.t 10)),Ob 33 (.callz (.t 31) [(.t 32)])])
 (.cond (.t 33) (.region [Ob 34 (.mov (.t 8)),Ob 35 (.mov (.t 9)),Ob 36 (.lit false 3 1 [(.t 35)]),Ob 37 (.app false (.t 34) (.t 36) 3 1 8),Ob 8 (.mov (.t 37))])
 (.skip))))))
 (.region [Ob 38 (.bin .add (.t 22) (Ci 1)),Ob 22 (.mov (.t 38))])))))))
 (.seq (.region [Ob 39 (.mov (.t 8)),Ob 4 (.mov (.t 39)),Ob 5 (.mov (Ci 0))])
 (.ret))))))
def r50 : List Res := [.t 4,.t 5]
def a50 : AFn := ⟨2, c50, r50,.v⟩

def c51 : ACode := .seq (.region [Ob 2 (.mov (.c (.bool false)))])
 (.seq (.region [Ob 3 (.mov (.t 0)),Ob 4 (.call 52 [(.t 3), (.c (.fn 53 [] []))]),Ob 2 (.mov (.t 4))])
 (.ret))
def r51 : List Res := [.t 2]
def a51 : AFn := ⟨1, c51, r51,.v⟩

def c52 : ACode := .seq (.region [Ob 4 (.mov (.c (.bool false)))])
 (.seq (.region [Ob 5 (.mov (.t 0)),Ob 6 (.mov (.t 1)),Ob 7 (.call 78 [(.t 5), (.t 6)]),Ob 8 (.bin .geq (.t 7) (Ci 0)),Ob 4 (.mov (.t 8))])
 (.ret))
def r52 : List Res := [.t 4]
def a52 : AFn := ⟨2, c52, r52,.v⟩

def c53 : ACode := .seq (.region [Ob 1 (.box (.t 0) 5),Ob 2 (.mov (.c (.bool false)))])
 (.seq (.region [Ob 3 (.addr (.t 1) 3),Ob 4 (.load (.t 3) none),Ob 5 (.bin .gtr (.t 4) (Ci 0)),Ob 2 (.mov (.t 5))])
 (.ret))
def r53 : List Res := [.t 2]
def a53 : AFn := ⟨1, c53, r53,.v⟩

def c54 : ACode := .seq (.region [Ob 6 (.mov (.c (.bool false)))])
 (.seq (.seq (.region [Ob 7 (.mov (Ci 0))])
 (.block 0 (.loop (.seq (.seq (.region [Ob 8 (.mov (.t 7)),Ob 9 (.mov (.t 0)),Ob 10 (.len (.t 9)),Ob 11 (.bin .lss (.t 8) (.t 10))])
 (.cond (.t 11) (.skip)
 (.exit 0)))
 (.seq (.block 1 (.seq (.region [Ob 14 (.mov (.t 0)),Ob 15 (.mov (.t 7)),Ob 16 (.idx (.t 14) (.t 15) 1),Ob 17 (.load (.t 16) none),Ob 18 (.mov (.t 1)),Ob 19 (.mov (.t 2)),Ob 20 (.call 64 [(.t 17), (.t 18), (.t 19)]),Ob 21 (.not (.t 20))])
 (.cond (.t 21) (.seq (.region [Ob 6 (.mov (.c (.bool false)))])
 (.ret))
 (.skip))))
 (.region [Ob 12 (.mov (.t 7)),Ob 13 (.bin .add (.t 12) (Ci 1)),Ob 7 (.mov (.t 13))]))))))
 (.seq (.region [Ob 6 (.mov (.c (.bool true)))])
 (.ret)))
def r54 : List Res := [.t 6]
def a54 : AFn := ⟨3, c54, r54,.v⟩

def c55 : ACode := .seq (.region [Ob 2 (.mov (Ci 0))])
 (.seq (.region [Ob 3 (.mov (Ci 0))])
 (.seq (.seq (.region [Ob 4 (.mov (Ci 0))])
 (.block 0 (.loop (.seq (.seq (.region [Ob 5 (.mov (.t 4)),Ob 6 (.mov (.t 0)),Ob 7 (.len (.t 6)),Ob 8 (.bin .lss (.t 5) (.t 7))])
 (.cond (.t 8) (.skip)
 (.exit 0)))
 (.seq (.block 1 (.region [Ob 11 (.mov (.t 3)),Ob 12 (.mov (.t 0)),Ob 13 (.mov (.t 4)),Ob 14 (.idx (.t 12) (.t 13) 1),Ob 15 (.load (.t 14) none),Ob 16 (.bin .add (.t 11) (.t 15)),Ob 3 (.mov (.t 16))]))
 (.region [Ob 9 (.mov (.t 4)),Ob 10 (.bin .add (.t 9) (Ci 1)),Ob 4 (.mov (.t 10))]))))))
 (.seq (.region [Ob 17 (.mov (.t 3)),Ob 2 (.mov (.t 17))])
 (.ret))))
def r55 : List Res := [.t 2]
def a55 : AFn := ⟨1, c55, r55,.v⟩

def c56 : ACode := .seq (.region [Ob 4 (.mov (.c (.bool false)))])
 (.seq (.seq (.region [Ob 5 (.mov (Ci 0))])
 (.block 0 (.loop (.seq (.seq (.region [Ob 6 (.mov (.t 5)),Ob 7 (.mov (.t 0)),Ob 8 (.len (.t 7)),Ob 9 (.bin .lss (.t 6) (.t 8)),Ob 10 (.mov (.t 9)),Og 11 10 true (.mov (.t 5)),Og 12 10 true (.mov (.t 1)),Og 13 10 true (.len (.t 12)),Og 14 10 true (.bin .lss (.t 11) (.t 13)),Ob 15 (.pick (.t 10) (.t 14) (.c (.bool false)))])
 (.cond (.t 15) (.skip)
 (.exit 0)))
 (.seq (.block 1 (.seq (.region [Ob 18 (.mov (.t 0)),Ob 19 (.mov (.t 5)),Ob 20 (.idx (.t 18) (.t 19) 1),Ob 21 (.load (.t 20) none),Ob 22 (.mov (.t 1)),Ob 23 (.mov (.t 5)),Ob 24 (.idx (.t 22) (.t 23) 1),Ob 25 (.load (.t 24) none),Ob 26 (.bin .neq (.t 21) (.t 25))])
 (.cond (.t 26) (.seq (.region [Ob 4 (.mov (.c (.bool false)))])
 (.ret))
 (.skip))))
 (.region [Ob 16 (.mov (.t 5)),Ob 17 (.bin .add (.t 16) (Ci 1)),Ob 5 (.mov (.t 17))]))))))
 (.seq (.region [Ob 27 (.mov (.t 0)),Ob 28 (.len (.t 27)),Ob 29 (.mov (.t 1)),Ob 30 (.len (.t 29)),Ob 31 (.bin .eql (.t 28) (.t 30)),Ob 4 (.mov (.t 31))])
 (.ret)))
def r56 : List Res := [.t 4]
def a56 : AFn := ⟨2, c56, r56,.v⟩

def c57 : ACode := .seq (.region [Ob 2 (.mov (.c (.bool false)))])
 (.seq (.region [Ob 3 (.mov (.t 0)),Ob 4 (.call 52 [(.t 3), (.c (.fn 58 [] []))]),Ob 5 (.not (.t 4)),Ob 2 (.mov (.t 5))])
 (.ret))
def r57 : List Res := [.t 2]
def a57 : AFn := ⟨1, c57, r57,.v⟩

def c58 : ACode := .seq (.region [Ob 1 (.box (.t 0) 5),Ob 2 (.mov (.c (.bool false)))])
 (.seq (.region [Ob 3 (.load (.t 1) (some 5)),Ob 4 (.call 53 [(.t 3)]),Ob 5 (.not (.t 4)),Ob 2 (.mov (.t 5))])
 (.ret))
def r58 : List Res := [.t 2]
def a58 : AFn := ⟨1, c58, r58,.v⟩

def c59 : ACode := .seq (.region [Ob 3 (.box (.t 0) 4),Ob 6 (.mov (.c (.bool false)))])
 (.seq (.region [Ob 7 (.mov (.t 2)),Ob 8 (.addr (.t 3) 3),Ob 9 (.load (.t 8) none),Ob 10 (.mov (.t 1)),Ob 11 (.idx (.t 9) (.t 10) 6),Ob 12 (.addr (.t 11) 0),Ob 13 (.load (.t 12) none),Ob 14 (.call 56 [(.t 7), (.t 13)]),Ob 15 (.not (.t 14)),Ob 6 (.mov (.t 15))])
 (.ret))
def r59 : List Res := [.t 6]
def a59 : AFn := ⟨3, c59, r59,.v⟩

def c60 : ACode := .seq (.region [Ob 3 (.box (.t 0) 4),Ob 6 (.mov (.c (.bool false)))])
 (.seq (.region [Ob 7 (.load (.t 3) (some 4)),Ob 8 (.mov (.t 1)),Ob 9 (.mov (.t 2)),Ob 10 (.call 25 [(.t 7), (.t 8), (.t 9)]),Ob 11 (.addr (.t 3) 3),Ob 12 (.load (.t 11) none),Ob 13 (.mov (.t 1)),Ob 14 (.idx (.t 12) (.t 13) 6),Ob 15 (.addr (.t 14) 5),Ob 16 (.load (.t 15) none),Ob 17 (.bin .neq (.t 10) (.t 16)),Ob 6 (.mov (.t 17))])
 (.ret))
def r60 : List Res := [.t 6]
def a60 : AFn := ⟨3, c60, r60,.v⟩

def c61 : ACode := .seq (.region [Ob 1 (.box (.t 0) 5),Ob 2 (.mov (Ci 0))])
 (.seq (.region [Ob 3 (.addr (.t 1) 4),Ob 4 (.load (.t 3) none),Ob 2 (.mov (.t 4))])
 (.ret))
def r61 : List Res := [.t 2]
def a61 : AFn := ⟨1, c61, r61,.v⟩

def c62 : ACode := .seq (.region [Ob 1 (.box (.t 0) 1),Ob 2 (.mov (.c (.sl [] .tight)))])
 (.seq (.region [Ob 3 (.new .nilf 1),On (.store (.t 3) (.c (.fn 79 [] [])) 1)])
 (.seq (.region [Ob 4 (.mov (.c (.sl [] .tight)))])
 (.seq (.seq (.region [Ob 6 (.load (.t 1) none),Ob 7 (.len (.t 6)),Ob 8 (.mov (Ci 0))])
 (.block 0 (.loop (.seq (.region [Ob 9 (.bin .lss (.t 8) (.t 7))])
 (.seq (.cond (.t 9) (.skip)
 (.exit 0))
 (.seq (.block 1 (.seq (.region [Ob 10 (.mov (.t 8)),Ob 5 (.mov (.t 10))])
 (.region [Ob 11 (.mov (.t 4)),Ob 12 (.mov (.t 5)),Ob 13 (.lit true 3 1 [(.t 12)]),Ob 14 (.app true (.t 11) (.t 13) 3 1 8),Ob 4 (.mov (.t 14))])))
 (.region [Ob 15 (.bin .add (.t 8) (Ci 1)),Ob 8 (.mov (.t 15))])))))))
 (.seq (.region [Ob 16 (.mov (.t 4)),Ob 17 (.clo 81 [] [(.t 3), (.t 1)]),Ob 18 (.call 80 [(.t 16), (.t 17)])])
 (.seq (.region [Ob 19 (.mov (.t 4)),Ob 2 (.mov (.t 19))])
 (.ret))))))
def r62 : List Res := [.t 2]
def a62 : AFn := ⟨1, c62, r62,.v⟩

def c63 : ACode := .seq (.region [Ob 2 (.mov (.c (.sl [] .tight)))])
 (.nilq [Ob 3 (.mov (.t 0))] (.t 3) 4 (.seq (.cond (.t 4) (.seq (.region [Ob 2 (.mov (.c (.sl [] .tight)))])
 (.ret))
 (.skip))
 (.seq (.region [Ob 5 (.lit false 3 1 []),Ob 6 (.mov (.t 0)),Ob 7 (.app0 (.t 5) (.t 6) 3 1 8),Ob 2 (.mov (.t 7))])
 (.ret))) [])
def r63 : List Res := [.t 2]
def a63 : AFn := ⟨1, c63, r63,.o⟩

def c64 : ACode := .seq (.region [Ob 6 (.mov (.c (.bool false)))])
 (.seq (.region [Ob 7 (.mov (.t 0)),Ob 8 (.mov (.t 1)),Ob 9 (.bin .geq (.t 7) (.t 8)),Ob 10 (.mov (.t 9)),Og 11 10 true (.mov (.t 0)),Og 12 10 true (.mov (.t 2)),Og 13 10 true (.bin .leq (.t 11) (.t 12)),Ob 14 (.pick (.t 10) (.t 13) (.c (.bool false))),Ob 6 (.mov (.t 14))])
 (.ret))
def r64 : List Res := [.t 6]
def a64 : AFn := ⟨3, c64, r64,.v⟩

def c65 : ACode := .seq (.region [Ob 1 (.box (.t 0) 4),Ob 2 (.mov (.c (.bool false)))])
 (.seq (.region [Ob 4 (.addr (.t 1) 0),Ob 5 (.load (.t 4) none),Ob 6 (.len (.t 5)),Ob 3 (.new (.int .i64 0) 1),On (.store (.t 3) (.t 6) 1)])
 (.seq (.region [Ob 7 (.load (.t 3) none),Ob 8 (.call 73 [(.t 7), (Ci 1), (Ci 3)]),Ob 9 (.mov (.t 8)),Og 10 9 true (.addr (.t 1) 1),Og 11 9 true (.load (.t 10) none),Og 12 9 true (.len (.t 11)),Og 13 9 true (.load (.t 3) none),Og 14 9 true (.bin .eql (.t 12) (.t 13)),Ob 15 (.pick (.t 9) (.t 14) (.c (.bool false))),Ob 16 (.mov (.t 15)),Og 17 16 true (.addr (.t 1) 2),Og 18 16 true (.load (.t 17) none),Og 19 16 true (.len (.t 18)),Og 20 16 true (.load (.t 3) none),Og 21 16 true (.bin .eql (.t 19) (.t 20)),Ob 22 (.pick (.t 16) (.t 21) (.c (.bool false))),Ob 23 (.mov (.t 22)),Og 24 23 true (.addr (.t 1) 0),Og 25 23 true (.load (.t 24) none),Og 26 23 true (.call 83 [(.t 25), (Ci 1), (Ci 50)]),Ob 27 (.pick (.t 23) (.t 26) (.c (.bool false))),Ob 28 (.mov (.t 27)),Og 29 28 true (.addr (.t 1) 1),Og 30 28 true (.load (.t 29) none),Og 31 28 true (.call 83 [(.t 30), (Ci 0), (Ci 80)]),Ob 32 (.pick (.t 28) (.t 31) (.c (.bool false))),Ob 33 (.mov (.t 32)),Og 34 33 true (.addr (.t 1) 2),Og 35 33 true (.load (.t 34) none),Og 36 33 true (.call 83 [(.t 35), (Ci 0), (Ci 80)]),Ob 37 (.pick (.t 33) (.t 36) (.c (.bool false))),Ob 38 (.mov (.t 37)),Og 39 38 true (.addr (.t 1) 3),Og 40 38 true (.load (.t 39) none),Og 41 38 true (.len (.t 40)),Og 42 38 true (.call 73 [(.t 41), (Ci 1), (Ci 4)]),Ob 43 (.pick (.t 38) (.t 42) (.c (.bool false))),Ob 44 (.mov (.t 43)),Og 45 44 true (.addr (.t 1) 3),Og 46 44 true (.load (.t 45) none),Og 47 44 true (.clo 85 [] [(.t 3)]),Og 48 44 true (.call 84 [(.t 46), (.t 47)]),Og 49 44 true (.not (.t 48)),Ob 50 (.pick (.t 44) (.t 49) (.c (.bool false))),Ob 2 (.mov (.t 50))])
 (.ret)))
def r65 : List Res := [.t 2]
def a65 : AFn := ⟨1, c65, r65,.v⟩

def c66 : ACode := .seq (.region [Ob 3 (.box (.t 0) 4),Ob 6 (.mov (.c (.sl [] .tight))),Ob 7 (.mov (Ci 0)),Ob 8 (.mov (Ci 0))])
 (.seq (.seq (.region [Ob 12 (.load (.t 3) (some 4)),Ob 13 (.call 29 [(.t 12)]),Ob 9 (.mov (.t 13))])
 (.seq (.region [Ob 14 (.mov (.t 9)),Ob 15 (.bin .neq (.t 14) (Ci 0))])
 (.cond (.t 15) (.seq (.region [Ob 16 (.mov (.t 9)),Ob 6 (.mov (.c (.sl [] .tight))),Ob 7 (.mov (Ci 0)),Ob 8 (.mov (.t 16))])
 (.ret))
 (.skip))))
 (.seq (.seq (.region [Ob 17 (.mov (.t 1)),Ob 18 (.addr (.t 3) 3),Ob 19 (.load (.t 18) none),Ob 20 (.len (.t 19)),Ob 21 (.bin .sub (.t 20) (Ci 1)),Ob 22 (.call 64 [(.t 17), (Ci 0), (.t 21)]),Ob 23 (.not (.t 22)),Ob 24 (.mov (.t 23)),Og 25 24 false (.mov (.t 2)),Og 26 24 false (.addr (.t 3) 0),Og 27 24 false (.load (.t 26) none),Og 28 24 false (.len (.t 27)),Og 29 24 false (.bin .sub (.t 28) (Ci 1)),Og 30 24 false (.call 64 [(.t 25), (Ci 0), (.t 29)]),Og 31 24 false (.not (.t 30)),Ob 32 (.pick (.t 24) (.c (.bool true)) (.t 31))])
 (.cond (.t 32) (.seq (.region [Ob 6 (.mov (.c (.sl [] .tight))),Ob 7 (.mov (Ci 0)),Ob 8 (.mov (Ci 1))])
 (.ret))
 (.skip)))
 (.seq (.region [Ob 34 (.load (.t 3) (some 4)),Ob 35 (.call 87 [(.t 34)]),Ob 33 (.mov (.t 35)),Ob 36 (.ext (.t 33) 0),Ob 37 (.ext (.t 33) 1),Ob 10 (.mov (.t 36)),Ob 11 (.mov (.t 37))])
 (.seq (.seq (.region [Ob 38 (.mov (.t 10)),Ob 39 (.len (.t 38)),Ob 40 (.bin .eql (.t 39) (Ci 0))])
 (.cond (.t 40) (.seq (.region [Ob 6 (.mov (.c (.sl [] .tight))),Ob 7 (.mov (Ci 0)),Ob 8 (.mov (Ci 3))])
 (.ret))
 (.skip)))
 (.seq (.region [Ob 41 (.mov (.t 10)),Ob 42 (.mov (.t 11)),Ob 6 (.mov (.t 41)),Ob 7 (.mov (.t 42)),Ob 8 (.mov (Ci 0))])
 (.ret))))))
def r66 : List Res := [.t 6,.t 7,.t 8]
def a66 : AFn := ⟨3, c66, r66,.v⟩

def c67 : ACode := .seq (.region [Ob 3 (.box (.t 0) 4),Ob 6 (.mov (.c (.sl [] .tight)))])
 (.seq (.region [Ob 7 (.mov (.c (.sl [] .tight)))])
 (.seq (.seq (.region [Ob 8 (.mov (Ci 0))])
 (.block 0 (.loop (.seq (.seq (.region [Ob 11 (.mov (.t 8)),Ob 12 (.addr (.t 3) 3),Ob 13 (.load (.t 12) none),Ob 14 (.len (.t 13)),Ob 15 (.bin .lss (.t 11) (.t 14))])
 (.cond (.t 15) (.skip)
 (.exit 0)))
 (.seq (.block 1 (.seq (.region [Ob 9 (.mov (Ci 0))])
 (.seq (.seq (.region [Ob 10 (.mov (Ci 0))])
 (.block 2 (.loop (.seq (.seq (.region [Ob 18 (.mov (.t 10)),Ob 19 (.mov (.t 1)),Ob 20 (.len (.t 19)),Ob 21 (.bin .lss (.t 18) (.t 20))])
 (.cond (.t 21) (.skip)
 (.exit 2)))
 (.seq (.block 3 (.seq (.region [Ob 24 (.load (.t 3) (some 4)),Ob 25 (.mov (.t 8)),Ob 26 (.mov (.t 1)),Ob 27 (.mov (.t 10)),Ob 28 (.idx (.t 26) (.t 27) 1),Ob 29 (.load (.t 28) none),Ob 30 (.mov (.t 8)),Ob 31 (.idx (.t 29) (.t 30) 1),Ob 32 (.load (.t 31) none),Ob 33 (.call 22 [(.t 24), (.t 25), (.t 32)]),Ob 34 (.bin .gtr (.t 33) (Ci 0))])
 (.cond (.t 34) (.region [Ob 35 (.mov (.t 9)),Ob 36 (.bin .add (.t 35) (Ci 1)),Ob 9 (.mov (.t 36))])
 (.skip))))
 (.region [Ob 22 (.mov (.t 10)),Ob 23 (.bin .add (.t 22) (Ci 1)),Ob 10 (.mov (.t 23))]))))))
 (.seq (.region [Ob 37 (.mov (.t 9)),Ob 38 (.bin .gtr (.t 37) (Ci 0)),Ob 39 (.mov (.t 38)),Og 40 39 true (.mov (.t 2)),Og 41 39 true (.not (.t 40)),Og 42 39 true (.mov (.t 41)),Og 43 42 false (.mov (.t 9)),Og 44 42 false (.mov (.t 1)),Og 45 42 false (.len (.t 44)),Og 46 42 false (.bin .eql (.t 43) (.t 45)),Og 47 39 true (.pick (.t 42) (.c (.bool true)) (.t 46)),Ob 48 (.pick (.t 39) (.t 47) (.c (.bool false)))])
 (.cond (.t 48) (.region [Ob 49 (.mov (.t 7)),Ob 50 (.mov (.t 8)),Ob 51 (.lit false 3 1 [(.t 50)]),Ob 52 (.app false (.t 49) (.t 51) 3 1 8),Ob 7 (.mov (.t 52))])
 (.skip))))))
 (.region [Ob 16 (.mov (.t 8)),Ob 17 (.bin .add (.t 16) (Ci 1)),Ob 8 (.mov (.t 17))]))))))
 (.seq (.region [Ob 53 (.mov (.t 7)),Ob 6 (.mov (.t 53))])
 (.ret))))
def r67 : List Res := [.t 6]
def a67 : AFn := ⟨3, c67, r67,.v⟩

def c68 : ACode := .seq (.region [Ob 2 (.new (.agg [(.int .i64 0), (.int .i64 0), (.int .i64 0)]) 3)])
 (.seq (.region [Ob 3 (.new (.agg [(.int .i64 0), (.int .i64 0), (.int .i64 0)]) 3)])
 (.seq (.region [Ob 4 (.aps (.t 3) 3),Ob 5 (.mov (.t 0)),Ob 6 (.cpy (.t 4) (.t 5) 1)])
 (.seq (.region [Ob 7 (.load (.t 3) (some 3)),On (.store (.t 2) (.t 7) 3)])
 (.ret))))
def r68 : List Res := [.cell 2 (some 3)]
def a68 : AFn := ⟨1, c68, r68,.v⟩

def c69 : ACode := .seq (.region [Ob 1 (.box (.t 0) 3),Ob 2 (.mov (Ci 0))])
 (.seq (.region [Ob 3 (.mov (Ci 0))])
 (.seq (.seq (.region [Ob 6 (.load (.t 1) (some 3)),Ob 7 (.mov (Ci 0))])
 (.block 0 (.loop (.seq (.region [Ob 8 (.bin .lss (.t 7) (Ci 3))])
 (.seq (.cond (.t 8) (.skip)
 (.exit 0))
 (.seq (.block 1 (.seq (.region [Ob 9 (.vidx (.t 6) (.t 7) 3 1 none),Ob 5 (.mov (.t 9))])
 (.region [Ob 10 (.mov (.t 3)),Ob 11 (.mov (.t 5)),Ob 12 (.bin .add (.t 10) (.t 11)),Ob 3 (.mov (.t 12))])))
 (.region [Ob 13 (.bin .add (.t 7) (Ci 1)),Ob 7 (.mov (.t 13))])))))))
 (.seq (.region [Ob 14 (.mov (.t 3)),Ob 2 (.mov (.t 14))])
 (.ret))))
def r69 : List Res := [.t 2]
def a69 : AFn := ⟨1, c69, r69,.v⟩

def c70 : ACode := .seq (.region [Ob 1 (.box (.t 0) 6),Ob 2 (.mov (Ci 0))])
 (.seq (.region [Ob 3 (.addr (.t 1) 2),Ob 4 (.load (.t 3) none),Ob 5 (.addr (.t 1) 1),Ob 6 (.load (.t 5) none),Ob 7 (.bin .sub (.t 4) (.t 6)),Ob 8 (.addr (.t 1) 3),Ob 9 (.load (.t 8) none),Ob 10 (.bin .sub (.t 7) (.t 9)),Ob 2 (.mov (.t 10))])
 (.ret))
def r70 : List Res := [.t 2]
def a70 : AFn := ⟨1, c70, r70,.v⟩

def c71 : ACode := .seq (.region [Ob 3 (.box (.t 0) 6),Ob 4 (.box (.t 1) 3),Ob 5 (.box (.t 2) 3),Ob 6 (.mov (Ci 0))])
 (.seq (.region [Ob 7 (.addr (.t 3) 4),Ob 8 (.load (.t 7) none),Ob 9 (.load (.t 4) (some 3)),Ob 10 (.load (.t 5) (some 3)),Ob 11 (.call 88 [(.t 9), (.t 10)]),Ob 12 (.bin .add (.t 8) (.t 11)),Ob 13 (.addr (.t 3) 5),Ob 14 (.load (.t 13) none),Ob 15 (.bin .sub (.t 12) (.t 14)),Ob 6 (.mov (.t 15))])
 (.ret))
def r71 : List Res := [.t 6]
def a71 : AFn := ⟨3, c71, r71,.v⟩

def c72 : ACode := .seq (.region [Ob 2 (.box (.t 0) 3),Ob 3 (.box (.t 1) 3),Ob 4 (.new (.agg [(.int .i64 0), (.int .i64 0), (.int .i64 0)]) 3)])
 (.seq (.seq (.region [Ob 7 (.load (.t 3) (some 3)),Ob 8 (.mov (Ci 0))])
 (.block 0 (.loop (.seq (.region [Ob 9 (.bin .lss (.t 8) (Ci 3))])
 (.seq (.cond (.t 9) (.skip)
 (.exit 0))
 (.seq (.block 1 (.seq (.region [Ob 10 (.mov (.t 8)),Ob 11 (.vidx (.t 7) (.t 8) 3 1 none),Ob 5 (.mov (.t 10)),Ob 6 (.mov (.t 11))])
 (.region [Ob 12 (.mov (.t 5)),Ob 13 (.aidx (.t 2) (.t 12) 3 1),Ob 14 (.load (.t 13) none),Ob 15 (.mov (.t 6)),Ob 16 (.bin .add (.t 14) (.t 15)),Ob 17 (.aidx (.t 2) (.t 12) 3 1),On (.store (.t 17) (.t 16) 1)])))
 (.region [Ob 18 (.bin .add (.t 8) (Ci 1)),Ob 8 (.mov (.t 18))])))))))
 (.seq (.region [Ob 19 (.load (.t 2) (some 3)),On (.store (.t 4) (.t 19) 3)])
 (.ret)))
def r72 : List Res := [.cell 4 (some 3)]
def a72 : AFn := ⟨2, c72, r72,.v⟩

def c73 : ACode := .seq (.region [Ob 6 (.mov (.c (.bool false)))])
 (.seq (.region [Ob 7 (.mov (.t 1)),Ob 8 (.mov (.t 0)),Ob 9 (.bin .leq (.t 7) (.t 8)),Ob 10 (.mov (.t 9)),Og 11 10 true (.mov (.t 0)),Og 12 10 true (.mov (.t 2)),Og 13 10 true (.bin .leq (.t 11) (.t 12)),Ob 14 (.pick (.t 10) (.t 13) (.c (.bool false))),Ob 6 (.mov (.t 14))])
 (.ret))
def r73 : List Res := [.t 6]
def a73 : AFn := ⟨3, c73, r73,.v⟩

def c74 : ACode := .seq (.region [Ob 1 (.box (.t 0) 4),Ob 2 (.mov (.c (.bool false)))])
 (.seq (.region [Ob 3 (.mov (Ci 0))])
 (.seq (.seq (.region [Ob 6 (.addr (.t 1) 3),Ob 7 (.load (.t 6) none),Ob 8 (.len (.t 7)),Ob 9 (.mov (Ci 0))])
 (.block 0 (.loop (.seq (.region [Ob 10 (.bin .lss (.t 9) (.t 8))])
 (.seq (.cond (.t 10) (.skip)
 (.exit 0))
 (.seq (.block 1 (.seq (.region [Ob 11 (.idx (.t 7) (.t 9) 6),Ob 12 (.load (.t 11) (some 6)),Ob 5 (.new (.agg [(.sl [] .tight), (.int .i64 0), (.int .i64 0), (.int .i64 0), (.int .i64 0), (.int .i64 0)]) 6),On (.store (.t 5) (.t 12) 6)])
 (.region [Ob 13 (.mov (.t 3)),Ob 14 (.load (.t 5) (some 6)),Ob 15 (.call 70 [(.t 14)]),Ob 16 (.bin .add (.t 13) (.t 15)),Ob 3 (.mov (.t 16))])))
 (.region [Ob 17 (.bin .add (.t 9) (Ci 1)),Ob 9 (.mov (.t 17))])))))))
 (.seq (.region [Ob 18 (.mov (.t 3)),Ob 19 (.addr (.t 1) 1),Ob 20 (.load (.t 19) none),Ob 21 (.call 68 [(.t 20)]),Ob 22 (.call 69 [(.t 21)]),Ob 23 (.bin .eql (.t 18) (.t 22)),Ob 2 (.mov (.t 23))])
 (.ret))))
def r74 : List Res := [.t 2]
def a74 : AFn := ⟨1, c74, r74,.v⟩

def c75 : ACode := .seq (.region [Ob 3 (.box (.t 0) 6),Ob 4 (.box (.t 1) 3),Ob 5 (.box (.t 2) 3),Ob 6 (.mov (.c (.sl [] .tight)))])
 (.seq (.region [Ob 12 (.addr (.t 3) 0),Ob 13 (.load (.t 12) none),Ob 14 (.call 68 [(.t 13)]),Ob 7 (.new (.agg [(.int .i64 0), (.int .i64 0), (.int .i64 0)]) 3),On (.store (.t 7) (.t 14) 3)])
 (.seq (.region [Ob 8 (.mov (.c (.sl [] .tight)))])
 (.seq (.seq (.region [Ob 15 (.load (.t 3) (some 6)),Ob 16 (.call 70 [(.t 15)]),Ob 17 (.load (.t 4) (some 3)),Ob 18 (.call 89 [(.t 16), (.t 17)]),Ob 19 (.len (.t 18)),Ob 20 (.mov (Ci 0))])
 (.block 0 (.loop (.seq (.region [Ob 21 (.bin .lss (.t 20) (.t 19))])
 (.seq (.cond (.t 21) (.skip)
 (.exit 0))
 (.seq (.block 1 (.seq (.region [Ob 22 (.idx (.t 18) (.t 20) 3),Ob 23 (.load (.t 22) (some 3)),Ob 10 (.new (.agg [(.int .i64 0), (.int .i64 0), (.int .i64 0)]) 3),On (.store (.t 10) (.t 23) 3)])
 (.seq (.region [Ob 24 (.load (.t 10) (some 3)),Ob 25 (.load (.t 3) (some 6)),Ob 26 (.load (.t 10) (some 3)),Ob 27 (.load (.t 5) (some 3)),On (.mov (.c .undef)),Ob 28 (.call 71 [(.t 25), (.t 26), (.t 27)]),Ob 29 (.build [(.int .i64 0), (.int .i64 0), (.int .i64 0), (.int .i64 0), (.int .i64 0)] [(0, 3, (.t 24)), (4, 1, (.t 28))]),Ob 11 (.box (.t 29) 5)])
 (.seq (.seq (.region [Ob 30 (.load (.t 10) (some 3)),Ob 31 (.load (.t 7) (some 3)),Ob 32 (.eqv true true [.i,.i,.i] (.t 30) (.t 31))])
 (.cond (.t 32) (.region [Ob 33 (.addr (.t 11) 3),Ob 34 (.load (.t 33) none),Ob 35 (.bin .add (.t 34) (Ci 1)),Ob 36 (.addr (.t 11) 3),On (.store (.t 36) (.t 35) 1)])
 (.skip)))
 (.seq (.seq (.region [Ob 37 (.addr (.t 11) 4),Ob 38 (.load (.t 37) none),Ob 39 (.bin .neq (.t 38) (Ci 0))])
 (.cond (.t 39) (.region [Ob 40 (.addr (.t 11) 3),Ob 41 (.load (.t 40) none),Ob 42 (.bin .add (.t 41) (Ci 1)),Ob 43 (.addr (.t 11) 3),On (.store (.t 43) (.t 42) 1)])
 (.skip)))
 (.region [Ob 44 (.mov (.t 8)),Ob 45 (.load (.t 11) (some 5)),Ob 46 (.lit false 72 5 [(.t 45)]),Ob 47 (.app false (.t 44) (.t 46) 72 5 40),Ob 8 (.mov (.t 47))]))))))
 (.region [Ob 48 (.bin .add (.t 20) (Ci 1)),Ob 20 (.mov (.t 48))])))))))
 (.seq (.region [Ob 49 (.mov (.t 8)),Ob 6 (.mov (.t 49))])
 (.ret)))))
def r75 : List Res := [.t 6]
def a75 : AFn := ⟨3, c75, r75,.v⟩

def c76 : ACode := .seq (.region [Ob 2 (.box (.t 0) 4),Ob 4 (.mov (.c .nilm))])
 (.seq (.region [Ob 8 (.mkmap (.n 3)),Ob 9 (.build [(.int .i64 0), (.int .i64 0), (.int .i64 0)] []),On (.mput (.n 3) (.t 8) (.t 9) (Ci 0)),Ob 10 (.mov (.t 8)),Ob 5 (.mov (.t 10))])
 (.seq (.seq (.region [Ob 11 (.addr (.t 2) 3),Ob 12 (.load (.t 11) none),Ob 13 (.len (.t 12)),Ob 14 (.mov (Ci 0))])
 (.block 0 (.loop (.seq (.region [Ob 15 (.bin .lss (.t 14) (.t 13))])
 (.seq (.cond (.t 15) (.skip)
 (.exit 0))
 (.seq (.block 1 (.seq (.region [Ob 16 (.mov (.t 14)),Ob 17 (.idx (.t 12) (.t 14) 1),Ob 18 (.load (.t 17) none),Ob 6 (.mov (.t 16)),Ob 7 (.mov (.t 18))])
 (.seq (.region [Ob 19 (.mov (.t 6)),Ob 20 (.mov (.t 1)),Ob 21 (.bin .neq (.t 19) (.t 20))])
 (.cond (.t 21) (.region [Ob 22 (.mov (.t 5)),Ob 23 (.mov (.t 7)),Ob 24 (.call 90 [(.t 22), (.t 23)]),Ob 5 (.mov (.t 24))])
 (.skip)))))
 (.region [Ob 25 (.bin .add (.t 14) (Ci 1)),Ob 14 (.mov (.t 25))])))))))
 (.seq (.region [Ob 26 (.mov (.t 5)),Ob 4 (.mov (.t 26))])
 (.ret))))
def r76 : List Res := [.t 4]
def a76 : AFn := ⟨2, c76, r76,.r⟩

def c77 : ACode := .seq (.region [Ob 2 (.box (.t 0) 3),Ob 3 (.box (.t 1) 3),Ob 4 (.new (.agg [(.int .i64 0), (.int .i64 0), (.int .i64 0)]) 3)])
 (.seq (.seq (.region [Ob 7 (.load (.t 3) (some 3)),Ob 8 (.mov (Ci 0))])
 (.block 0 (.loop (.seq (.region [Ob 9 (.bin .lss (.t 8) (Ci 3))])
 (.seq (.cond (.t 9) (.skip)
 (.exit 0))
 (.seq (.block 1 (.seq (.region [Ob 10 (.mov (.t 8)),Ob 11 (.vidx (.t 7) (.t 8) 3 1 none),Ob 5 (.mov (.t 10)),Ob 6 (.mov (.t 11))])
 (.region [Ob 12 (.mov (.t 5)),Ob 13 (.aidx (.t 2) (.t 12) 3 1),Ob 14 (.load (.t 13) none),Ob 15 (.mov (.t 6)),Ob 16 (.bin .sub (.t 14) (.t 15)),Ob 17 (.aidx (.t 2) (.t 12) 3 1),On (.store (.t 17) (.t 16) 1)])))
 (.region [Ob 18 (.bin .add (.t 8) (Ci 1)),Ob 8 (.mov (.t 18))])))))))
 (.seq (.region [Ob 19 (.load (.t 2) (some 3)),On (.store (.t 4) (.t 19) 3)])
 (.ret)))
def r77 : List Res := [.cell 4 (some 3)]
def a77 : AFn := ⟨2, c77, r77,.v⟩

def c78 : ACode := .seq (.region [Ob 4 (.mov (Ci 0))])
 (.seq (.seq (.region [Ob 6 (.mov (.t 0)),Ob 7 (.len (.t 6)),Ob 8 (.mov (Ci 0))])
 (.block 0 (.loop (.seq (.region [Ob 9 (.bin .lss (.t 8) (.t 7))])
 (.seq (.cond (.t 9) (.skip)
 (.exit 0))
 (.seq (.block 1 (.seq (.region [Ob 10 (.mov (.t 8)),Ob 5 (.mov (.t 10))])
 (.seq (.region [Ob 11 (.mov (.t 1)),Ob 12 (.mov (.t 0)),Ob 13 (.mov (.t 5)),Ob 14 (.idx (.t 12) (.t 13) 5),Ob 15 (.load (.t 14) (some 5)),Ob 16 (.callz (.t 11) [(.t 15)])])
 (.cond (.t 16) (.seq (.region [Ob 17 (.mov (.t 5)),Ob 4 (.mov (.t 17))])
 (.ret))
 (.skip)))))
 (.region [Ob 18 (.bin .add (.t 8) (Ci 1)),Ob 8 (.mov (.t 18))])))))))
 (.seq (.region [Ob 4 (.mov (Ci (-1)))])
 (.ret)))
def r78 : List Res := [.t 4]
def a78 : AFn := ⟨2, c78, r78,.v⟩

def c79 : ACode := .seq (.region [Ob 1 (.box (.t 0) 6),Ob 2 (.mov (.c (.sl [] .tight)))])
 (.seq (.region [Ob 3 (.addr (.t 1) 0),Ob 4 (.load (.t 3) none),Ob 6 (.addr (.t 1) 1),Ob 7 (.load (.t 6) none),Ob 8 (.addr (.t 1) 2),Ob 9 (.load (.t 8) none),Ob 10 (.addr (.t 1) 3),Ob 11 (.load (.t 10) none),Ob 12 (.addr (.t 1) 4),Ob 13 (.load (.t 12) none),Ob 14 (.addr (.t 1) 5),Ob 15 (.load (.t 14) none),Ob 16 (.lit false 3 1 [(.t 7), (.t 9), (.t 11), (.t 13), (.t 15)]),Ob 5 (.call 63 [(.t 4)]),Ob 17 (.app false (.t 5) (.t 16) 3 1 8),Ob 2 (.mov (.t 17))])
 (.ret))
def r79 : List Res := [.t 2]
def a79 : AFn := ⟨1, c79, r79,.v⟩

def c80 : ACode := .region [Ob 4 (.mov (.t 0)),Ob 5 (.mov (.t 0)),Ob 6 (.len (.t 5)),Ob 7 (.mov (.t 1)),Ob 8 (.call 91 [(.t 4), (.t 6), (.t 7)])]
def r80 : List Res := []
def a80 : AFn := ⟨2, c80, r80,.r⟩

def c81 : ACode := .seq (.region [Ob 6 (.mov (Ci 0))])
 (.seq (.region [Ob 7 (.load (.t 2) none),Ob 8 (.load (.t 3) none),Ob 9 (.mov (.t 0)),Ob 10 (.idx (.t 8) (.t 9) 6),Ob 11 (.load (.t 10) (some 6)),Ob 12 (.callz (.t 7) [(.t 11)]),Ob 13 (.load (.t 2) none),Ob 14 (.load (.t 3) none),Ob 15 (.mov (.t 1)),Ob 16 (.idx (.t 14) (.t 15) 6),Ob 17 (.load (.t 16) (some 6)),Ob 18 (.callz (.t 13) [(.t 17)]),Ob 19 (.call 82 [(.t 12), (.t 18)]),Ob 6 (.mov (.t 19))])
 (.ret))
def r81 : List Res := [.t 6]
def a81 : AFn := ⟨4, c81, r81,.v⟩

def c82 : ACode := .seq (.region [Ob 4 (.mov (Ci 0))])
 (.seq (.seq (.region [Ob 9 (.mov (.t 0)),Ob 10 (.len (.t 9)),Ob 11 (.mov (Ci 0))])
 (.block 0 (.loop (.seq (.region [Ob 12 (.bin .lss (.t 11) (.t 10))])
 (.seq (.cond (.t 12) (.skip)
 (.exit 0))
 (.seq (.block 1 (.seq (.region [Ob 13 (.mov (.t 11)),Ob 14 (.idx (.t 9) (.t 11) 1),Ob 15 (.load (.t 14) none),Ob 5 (.mov (.t 13)),Ob 6 (.mov (.t 15))])
 (.seq (.seq (.region [Ob 16 (.mov (.t 5)),Ob 17 (.mov (.t 1)),Ob 18 (.len (.t 17)),Ob 19 (.bin .geq (.t 16) (.t 18))])
 (.cond (.t 19) (.seq (.region [Ob 4 (.mov (Ci 1))])
 (.ret))
 (.skip)))
 (.seq (.region [Ob 20 (.mov (.t 1)),Ob 21 (.mov (.t 5)),Ob 22 (.idx (.t 20) (.t 21) 1),Ob 23 (.load (.t 22) none),Ob 7 (.mov (.t 23))])
 (.seq (.region [Ob 24 (.mov (.t 6)),Ob 25 (.mov (.t 7)),Ob 26 (.call 92 [(.t 24), (.t 25)]),Ob 8 (.mov (.t 26))])
 (.seq (.region [Ob 27 (.mov (.t 8)),Ob 28 (.bin .neq (.t 27) (Ci 0))])
 (.cond (.t 28) (.seq (.region [Ob 29 (.mov (.t 8)),Ob 4 (.mov (.t 29))])
 (.ret))
 (.skip))))))))
 (.region [Ob 30 (.bin .add (.t 11) (Ci 1)),Ob 11 (.mov (.t 30))])))))))
 (.seq (.seq (.region [Ob 31 (.mov (.t 0)),Ob 32 (.len (.t 31)),Ob 33 (.mov (.t 1)),Ob 34 (.len (.t 33)),Ob 35 (.bin .lss (.t 32) (.t 34))])
 (.cond (.t 35) (.seq (.region [Ob 4 (.mov (Ci (-1)))])
 (.ret))
 (.skip)))
 (.seq (.region [Ob 4 (.mov (Ci 0))])
 (.ret))))
def r82 : List Res := [.t 4]
def a82 : AFn := ⟨2, c82, r82,.v⟩

def c83 : ACode := .seq (.region [Ob 4 (.box (.t 1) 1),Ob 5 (.box (.t 2) 1),Ob 6 (.mov (.c (.bool false)))])
 (.seq (.region [Ob 7 (.mov (.t 0)),Ob 8 (.clo 94 [] [(.t 4), (.t 5)]),Ob 9 (.call 93 [(.t 7), (.t 8)]),Ob 10 (.not (.t 9)),Ob 6 (.mov (.t 10))])
 (.ret))
def r83 : List Res := [.t 6]
def a83 : AFn := ⟨3, c83, r83,.v⟩

def c84 : ACode := .seq (.region [Ob 4 (.mov (.c (.bool false)))])
 (.seq (.region [Ob 5 (.mov (.t 0)),Ob 6 (.mov (.t 1)),Ob 7 (.call 95 [(.t 5), (.t 6)]),Ob 8 (.bin .geq (.t 7) (Ci 0)),Ob 4 (.mov (.t 8))])
 (.ret))
def r84 : List Res := [.t 4]
def a84 : AFn := ⟨2, c84, r84,.v⟩

def c85 : ACode := .seq (.region [Ob 2 (.box (.t 0) 6),Ob 3 (.mov (.c (.bool false)))])
 (.seq (.region [Ob 4 (.load (.t 2) (some 6)),Ob 5 (.load (.t 1) none),Ob 6 (.call 86 [(.t 4), (.t 5)]),Ob 7 (.not (.t 6)),Ob 3 (.mov (.t 7))])
 (.ret))
def r85 : List Res := [.t 3]
def a85 : AFn := ⟨2, c85, r85,.v⟩

def c86 : ACode := .seq (.region [Ob 2 (.box (.t 0) 6),Ob 4 (.mov (.c (.bool false)))])
 (.seq (.region [Ob 5 (.addr (.t 2) 0),Ob 6 (.load (.t 5) none),Ob 7 (.len (.t 6)),Ob 8 (.mov (.t 1)),Ob 9 (.bin .eql (.t 7) (.t 8)),Ob 10 (.mov (.t 9)),Og 11 10 true (.addr (.t 2) 0),Og 12 10 true (.load (.t 11) none),Og 13 10 true (.call 83 [(.t 12), (Ci 0), (Ci 20)]),Ob 14 (.pick (.t 10) (.t 13) (.c (.bool false))),Ob 15 (.mov (.t 14)),Og 16 15 true (.addr (.t 2) 1),Og 17 15 true (.load (.t 16) none),Og 18 15 true (.addr (.t 2) 2),Og 19 15 true (.load (.t 18) none),Og 20 15 true (.addr (.t 2) 4),Og 21 15 true (.load (.t 20) none),Og 22 15 true (.addr (.t 2) 5),Og 23 15 true (.load (.t 22) none),Og 24 15 true (.lit false 3 1 [(.t 17), (.t 19), (.t 21), (.t 23)]),Og 25 15 true (.call 83 [(.t 24), (Ci 0), (Ci 9999)]),Ob 26 (.pick (.t 15) (.t 25) (.c (.bool false))),Ob 27 (.mov (.t 26)),Og 28 27 true (.addr (.t 2) 3),Og 29 27 true (.load (.t 28) none),Og 30 27 true (.call 73 [(.t 29), (Ci 0), (Ci 20)]),Ob 31 (.pick (.t 27) (.t 30) (.c (.bool false))),Ob 32 (.mov (.t 31)),Og 33 32 true (.load (.t 2) (some 6)),Og 34 32 true (.call 70 [(.t 33)]),Og 35 32 true (.call 73 [(.t 34), (Ci 0), (Ci 20)]),Ob 36 (.pick (.t 32) (.t 35) (.c (.bool false))),Ob 4 (.mov (.t 36))])
 (.ret))
def r86 : List Res := [.t 4]
def a86 : AFn := ⟨2, c86, r86,.v⟩

def c87 : ACode := .seq (.region [Ob 1 (.box (.t 0) 4),Ob 2 (.mov (.c (.sl [] .tight))),Ob 3 (.mov (Ci 0))])
 (.seq (.seq (.region [Ob 4 (.mov (Ci 0))])
 (.block 0 (.loop (.seq (.seq (.region [Ob 6 (.mov (.t 4)),Ob 7 (.addr (.t 1) 3),Ob 8 (.load (.t 7) none),Ob 9 (.len (.t 8)),Ob 10 (.bin .mul (Ci 2) (.t 9)),Ob 11 (.bin .leq (.t 6) (.t 10))])
 (.cond (.t 11) (.skip)
 (.exit 0)))
 (.seq (.block 1 (.seq (.region [Ob 14 (.load (.t 1) (some 4)),Ob 15 (.mov (.t 4)),Ob 16 (.addr (.t 1) 1),Ob 17 (.load (.t 16) none),Ob 18 (.call 96 [(.t 14), (Ci 0), (.t 15), (.t 17)]),Ob 5 (.mov (.t 18))])
 (.seq (.region [Ob 19 (.mov (.t 5)),Ob 20 (.len (.t 19)),Ob 21 (.bin .gtr (.t 20) (Ci 0))])
 (.cond (.t 21) (.seq (.region [Ob 22 (.mov (.t 5)),Ob 23 (.mov (.t 4)),Ob 2 (.mov (.t 22)),Ob 3 (.mov (.t 23))])
 (.ret))
 (.skip)))))
 (.region [Ob 12 (.mov (.t 4)),Ob 13 (.bin .add (.t 12) (Ci 1)),Ob 4 (.mov (.t 13))]))))))
 (.seq (.region [Ob 2 (.mov (.c (.sl [] .tight))),Ob 3 (.mov (Ci 0))])
 (.ret)))
def r87 : List Res := [.t 2,.t 3]
def a87 : AFn := ⟨1, c87, r87,.v⟩

def c88 : ACode := .seq (.region [Ob 2 (.box (.t 0) 3),Ob 3 (.box (.t 1) 3),Ob 4 (.mov (Ci 0))])
 (.seq (.region [Ob 5 (.mov (Ci 0))])
 (.seq (.seq (.region [Ob 8 (.load (.t 2) (some 3)),Ob 9 (.mov (Ci 0))])
 (.block 0 (.loop (.seq (.region [Ob 10 (.bin .lss (.t 9) (Ci 3))])
 (.seq (.cond (.t 10) (.skip)
 (.exit 0))
 (.seq (.block 1 (.seq (.region [Ob 11 (.mov (.t 9)),Ob 12 (.vidx (.t 8) (.t 9) 3 1 none),Ob 6 (.mov (.t 11)),Ob 7 (.mov (.t 12))])
 (.region [Ob 13 (.mov (.t 5)),Ob 14 (.mov (.t 7)),Ob 15 (.mov (.t 6)),Ob 16 (.aidx (.t 3) (.t 15) 3 1),Ob 17 (.load (.t 16) none),Ob 18 (.bin .mul (.t 14) (.t 17)),Ob 19 (.bin .add (.t 13) (.t 18)),Ob 5 (.mov (.t 19))])))
 (.region [Ob 20 (.bin .add (.t 9) (Ci 1)),Ob 9 (.mov (.t 20))])))))))
 (.seq (.region [Ob 21 (.mov (.t 5)),Ob 4 (.mov (.t 21))])
 (.ret))))
def r88 : List Res := [.t 4]
def a88 : AFn := ⟨2, c88, r88,.v⟩

def c89 : ACode := .seq (.region [Ob 3 (.box (.t 1) 3),Ob 4 (.mov (.c (.sl [] .tight)))])
 (.seq (.region [Ob 5 (.new (.sl [] .tight) 1)])
 (.seq (.region [Ob 6 (.new .nilf 1)])
 (.seq (.region [Ob 7 (.clo 97 [] [(.t 5), (.t 3), (.t 6)]),On (.store (.t 6) (.t 7) 1)])
 (.seq (.region [Ob 8 (.load (.t 6) none),Ob 9 (.build [(.int .i64 0), (.int .i64 0), (.int .i64 0)] []),Ob 10 (.mov (.t 0)),Ob 11 (.callv (.t 8) [(.t 9), (Ci 0), (.t 10)])])
 (.seq (.region [Ob 12 (.load (.t 5) none),Ob 4 (.mov (.t 12))])
 (.ret))))))
def r89 : List Res := [.t 4]
def a89 : AFn := ⟨2, c89, r89,.v⟩

def c90 : ACode := .seq (.region [Ob 4 (.mov (.c .nilm))])
 (.seq (.region [Ob 11 (.mkmap (.n 3)),Ob 5 (.new .nilm 1),On (.store (.t 5) (.t 11) 1)])
 (.seq (.region [Ob 12 (.clo 98 [] [(.t 5)]),Ob 6 (.mov (.t 12))])
 (.seq (.rngm (.t 13) 14 15 16 17 [Ob 13 (.mov (.t 0))] [Ob 18 (.ext (.t 17) 0), Ob 19 (.ext (.t 17) 1), Ob 7 (.new (.agg [(.int .i64 0), (.int .i64 0), (.int .i64 0)]) 3), On (.store (.t 7) (.t 18) 3), Ob 8 (.mov (.t 19))] 0 1 (.seq (.region [Ob 20 (.mov (.t 1)),Ob 21 (.len (.t 20)),Ob 22 (.mov (Ci 0))])
 (.block 2 (.loop (.seq (.region [Ob 23 (.bin .lss (.t 22) (.t 21))])
 (.seq (.cond (.t 23) (.skip)
 (.exit 2))
 (.seq (.block 3 (.seq (.region [Ob 24 (.idx (.t 20) (.t 22) 5),Ob 25 (.load (.t 24) (some 5)),Ob 10 (.new (.agg [(.int .i64 0), (.int .i64 0), (.int .i64 0), (.int .i64 0), (.int .i64 0)]) 5),On (.store (.t 10) (.t 25) 5)])
 (.region [Ob 26 (.mov (.t 6)),Ob 27 (.addr (.t 10) 0),Ob 28 (.load (.t 27) (some 3)),Ob 29 (.load (.t 7) (some 3)),Ob 30 (.call 72 [(.t 28), (.t 29)]),Ob 31 (.mov (.t 8)),Ob 32 (.addr (.t 10) 3),Ob 33 (.load (.t 32) none),Ob 34 (.bin .add (.t 31) (.t 33)),Ob 35 (.callv (.t 26) [(.t 30), (.t 34)])])))
 (.region [Ob 36 (.bin .add (.t 22) (Ci 1)),Ob 22 (.mov (.t 36))]))))))) [7, 8, 10, 18, 19, 20, 21, 22, 23, 24, 25, 26, 27, 28, 29, 30, 31, 32, 33, 34, 35, 36])
 (.seq (.region [Ob 37 (.load (.t 5) none),Ob 4 (.mov (.t 37))])
 (.ret)))))
def r90 : List Res := [.t 4]
def a90 : AFn := ⟨2, c90, r90,.r⟩

def c91 : ACode := .seq (.region [Ob 6 (.mov (Ci 20))])
 (.seq (.region [Ob 10 (.mov (.t 6)),Ob 7 (.mov (Ci 0)),Ob 8 (.mov (.t 10))])
 (.seq (.block 0 (.loop (.seq (.seq (.region [Ob 11 (.mov (.t 8)),Ob 12 (.mov (.t 1)),Ob 13 (.bin .leq (.t 11) (.t 12))])
 (.cond (.t 13) (.skip)
 (.exit 0)))
 (.block 1 (.seq (.region [Ob 14 (.mov (.t 0)),Ob 15 (.mov (.t 7)),Ob 16 (.mov (.t 8)),Ob 17 (.mov (.t 2)),Ob 18 (.call 99 [(.t 14), (.t 15), (.t 16), (.t 17)])])
 (.seq (.region [Ob 19 (.mov (.t 8)),Ob 7 (.mov (.t 19))])
 (.region [Ob 20 (.mov (.t 8)),Ob 21 (.mov (.t 6)),Ob 22 (.bin .add (.t 20) (.t 21)),Ob 8 (.mov (.t 22))])))))))
 (.seq (.region [Ob 23 (.mov (.t 0)),Ob 24 (.mov (.t 7)),Ob 25 (.mov (.t 1)),Ob 26 (.mov (.t 2)),Ob 27 (.call 99 [(.t 23), (.t 24), (.t 25), (.t 26)])])
 (.block 2 (.loop (.seq (.seq (.region [Ob 28 (.mov (.t 6)),Ob 29 (.mov (.t 1)),Ob 30 (.bin .lss (.t 28) (.t 29))])
 (.cond (.t 30) (.skip)
 (.exit 2)))
 (.block 3 (.seq (.region [Ob 31 (.mov (.t 6)),Ob 32 (.bin .mul (Ci 2) (.t 31)),Ob 7 (.mov (Ci 0)),Ob 8 (.mov (.t 32))])
 (.seq (.block 4 (.loop (.seq (.seq (.region [Ob 33 (.mov (.t 8)),Ob 34 (.mov (.t 1)),Ob 35 (.bin .leq (.t 33) (.t 34))])
 (.cond (.t 35) (.skip)
 (.exit 4)))
 (.block 5 (.seq (.region [Ob 36 (.mov (.t 0)),Ob 37 (.mov (.t 7)),Ob 38 (.mov (.t 7)),Ob 39 (.mov (.t 6)),Ob 40 (.bin .add (.t 38) (.t 39)),Ob 41 (.mov (.t 8)),Ob 42 (.mov (.t 2)),Ob 43 (.call 100 [(.t 36), (.t 37), (.t 40), (.t 41), (.t 42)])])
 (.seq (.region [Ob 44 (.mov (.t 8)),Ob 7 (.mov (.t 44))])
 (.region [Ob 45 (.mov (.t 8)),Ob 46 (.mov (.t 6)),Ob 47 (.bin .mul (Ci 2) (.t 46)),Ob 48 (.bin .add (.t 45) (.t 47)),Ob 8 (.mov (.t 48))])))))))
 (.seq (.seq (.region [Ob 49 (.mov (.t 7)),Ob 50 (.mov (.t 6)),Ob 51 (.bin .add (.t 49) (.t 50)),Ob 9 (.mov (.t 51))])
 (.seq (.region [Ob 52 (.mov (.t 9)),Ob 53 (.mov (.t 1)),Ob 54 (.bin .lss (.t 52) (.t 53))])
 (.cond (.t 54) (.region [Ob 55 (.mov (.t 0)),Ob 56 (.mov (.t 7)),Ob 57 (.mov (.t 9)),Ob 58 (.mov (.t 1)),Ob 59 (.mov (.t 2)),Ob 60 (.call 100 [(.t 55), (.t 56), (.t 57), (.t 58), (.t 59)])])
 (.skip))))
 (.region [Ob 61 (.mov (.t 6)),Ob 62 (.bin .mul (.t 61) (Ci 2)),Ob 6 (.mov (.t 62))])))))))))))
def r91 : List Res := []
def a91 : AFn := ⟨3, c91, r91,.r⟩

def c92 : ACode := .seq (.region [Ob 4 (.mov (Ci 0))])
 (.seq (.region [Ob 7 (.mov (.t 0)),Ob 8 (.call 101 [(.t 7)]),Ob 5 (.mov (.t 8))])
 (.seq (.region [Ob 9 (.mov (.t 1)),Ob 10 (.call 101 [(.t 9)]),Ob 6 (.mov (.t 10))])
 (.seq (.seq (.region [Ob 11 (.mov (.t 5))])
 (.cond (.t 11) (.seq (.seq (.region [Ob 12 (.mov (.t 6))])
 (.cond (.t 12) (.seq (.region [Ob 4 (.mov (Ci 0))])
 (.ret))
 (.skip)))
 (.seq (.region [Ob 4 (.mov (Ci (-1)))])
 (.ret)))
 (.skip)))
 (.seq (.seq (.region [Ob 13 (.mov (.t 6))])
 (.cond (.t 13) (.seq (.region [Ob 4 (.mov (Ci 1))])
 (.ret))
 (.skip)))
 (.seq (.seq (.region [Ob 14 (.mov (.t 0)),Ob 15 (.mov (.t 1)),Ob 16 (.bin .lss (.t 14) (.t 15))])
 (.cond (.t 16) (.seq (.region [Ob 4 (.mov (Ci (-1)))])
 (.ret))
 (.skip)))
 (.seq (.seq (.region [Ob 17 (.mov (.t 0)),Ob 18 (.mov (.t 1)),Ob 19 (.bin .gtr (.t 17) (.t 18))])
 (.cond (.t 19) (.seq (.region [Ob 4 (.mov (Ci 1))])
 (.ret))
 (.skip)))
 (.seq (.region [Ob 4 (.mov (Ci 0))])
 (.ret))))))))
def r92 : List Res := [.t 4]
def a92 : AFn := ⟨2, c92, r92,.v⟩

def c93 : ACode := .seq (.region [Ob 4 (.mov (.c (.bool false)))])
 (.seq (.region [Ob 5 (.mov (.t 0)),Ob 6 (.mov (.t 1)),Ob 7 (.call 102 [(.t 5), (.t 6)]),Ob 8 (.bin .geq (.t 7) (Ci 0)),Ob 4 (.mov (.t 8))])
 (.ret))
def r93 : List Res := [.t 4]
def a93 : AFn := ⟨2, c93, r93,.v⟩

def c94 : ACode := .seq (.region [Ob 4 (.mov (.c (.bool false)))])
 (.seq (.region [Ob 5 (.mov (.t 0)),Ob 6 (.load (.t 1) none),Ob 7 (.load (.t 2) none),Ob 8 (.call 73 [(.t 5), (.t 6), (.t 7)]),Ob 9 (.not (.t 8)),Ob 4 (.mov (.t 9))])
 (.ret))
def r94 : List Res := [.t 4]
def a94 : AFn := ⟨3, c94, r94,.v⟩

def c95 : ACode := .seq (.region [Ob 4 (.mov (Ci 0))])
 (.seq (.seq (.region [Ob 6 (.mov (.t 0)),Ob 7 (.len (.t 6)),Ob 8 (.mov (Ci 0))])
 (.block 0 (.loop (.seq (.region [Ob 9 (.bin .lss (.t 8) (.t 7))])
 (.seq (.cond (.t 9) (.skip)
 (.exit 0))
 (.seq (.block 1 (.seq (.region [Ob 10 (.mov (.t 8)),Ob 5 (.mov (.t 10))])
 (.seq (.region [Ob 11 (.mov (.t 1)),Ob 12 (.mov (.t 0)),Ob 13 (.mov (.t 5)),Ob 14 (.idx (.t 12) (.t 13) 6),Ob 15 (.load (.t 14) (some 6)),Ob 16 (.callz (.t 11) [(.t 15)])])
 (.cond (.t 16) (.seq (.region [Ob 17 (.mov (.t 5)),Ob 4 (.mov (.t 17))])
 (.ret))
 (.skip)))))
 (.region [Ob 18 (.bin .add (.t 8) (Ci 1)),Ob 8 (.mov (.t 18))])))))))
 (.seq (.region [Ob 4 (.mov (Ci (-1)))])
 (.ret)))
def r95 : List Res := [.t 4]
def a95 : AFn := ⟨2, c95, r95,.v⟩

def c96 : ACode := .seq (.region [Ob 4 (.box (.t 0) 4),Ob 8 (.mov (.c (.sl [] .tight)))])
 (.seq (.seq (.region [Ob 17 (.mov (.t 1)),Ob 18 (.addr (.t 4) 3),Ob 19 (.load (.t 18) none),Ob 20 (.len (.t 19)),Ob 21 (.bin .eql (.t 17) (.t 20))])
 (.cond (.t 21) (.seq (.seq (.region [Ob 22 (.mov (.t 3)),Ob 23 (.call 55 [(.t 22)]),Ob 24 (.bin .eql (.t 23) (Ci 0))])
 (.cond (.t 24) (.seq (.region [Ob 25 (.lit false 42 1 [(.c (.sl [] .tight))]),Ob 8 (.mov (.t 25))])
 (.ret))
 (.skip)))
 (.seq (.region [Ob 8 (.mov (.c (.sl [] .tight)))])
 (.ret)))
 (.skip)))
 (.seq (.region [Ob 9 (.mov (.c (.sl [] .tight)))])
 (.seq (.region [Ob 26 (.addr (.t 4) 3),Ob 27 (.load (.t 26) none),Ob 28 (.mov (.t 1)),Ob 29 (.idx (.t 27) (.t 28) 6),Ob 30 (.load (.t 29) (some 6)),Ob 31 (.call 26 [(.t 30)]),Ob 32 (.mov (.t 3)),Ob 33 (.call 103 [(.t 31), (.t 32)]),Ob 10 (.mov (.t 33))])
 (.seq (.seq (.region [Ob 11 (.mov (Ci 0))])
 (.block 0 (.loop (.seq (.seq (.region [Ob 34 (.mov (.t 11)),Ob 35 (.mov (.t 10)),Ob 36 (.len (.t 35)),Ob 37 (.bin .lss (.t 34) (.t 36))])
 (.cond (.t 37) (.skip)
 (.exit 0)))
 (.seq (.block 1 (.seq (.region [Ob 40 (.load (.t 4) (some 4)),Ob 41 (.mov (.t 1)),Ob 42 (.mov (.t 10)),Ob 43 (.mov (.t 11)),Ob 44 (.idx (.t 42) (.t 43) 1),Ob 45 (.load (.t 44) none),Ob 46 (.call 22 [(.t 40), (.t 41), (.t 45)]),Ob 12 (.mov (.t 46))])
 (.seq (.seq (.region [Ob 47 (.mov (.t 12)),Ob 48 (.mov (.t 2)),Ob 49 (.bin .gtr (.t 47) (.t 48))])
 (.cond (.t 49) (.exit 1)
 (.skip)))
 (.seq (.region [Ob 50 (.lit false 3 1 []),Ob 51 (.mov (.t 3)),Ob 52 (.app0 (.t 50) (.t 51) 3 1 8),Ob 13 (.mov (.t 52))])
 (.seq (.seq (.region [Ob 14 (.mov (Ci 0))])
 (.block 2 (.loop (.seq (.seq (.region [Ob 53 (.mov (.t 14)),Ob 54 (.mov (.t 13)),Ob 55 (.len (.t 54)),Ob 56 (.bin .lss (.t 53) (.t 55))])
 (.cond (.t 56) (.skip)
 (.exit 2)))
 (.seq (.block 3 (.region [Ob 59 (.mov (.t 13)),Ob 60 (.mov (.t 14)),Ob 61 (.idx (.t 59) (.t 60) 1),Ob 62 (.load (.t 61) none),Ob 63 (.mov (.t 10)),Ob 64 (.mov (.t 11)),Ob 65 (.idx (.t 63) (.t 64) 1),Ob 66 (.load (.t 65) none),Ob 67 (.mov (.t 14)),Ob 68 (.idx (.t 66) (.t 67) 1),Ob 69 (.load (.t 68) none),Ob 70 (.bin .sub (.t 62) (.t 69)),Ob 71 (.idx (.t 59) (.t 60) 1),On (.store (.t 71) (.t 70) 1)]))
 (.region [Ob 57 (.mov (.t 14)),Ob 58 (.bin .add (.t 57) (Ci 1)),Ob 14 (.mov (.t 58))]))))))
 (.seq (.seq (.frzs 13)
 (.region [Ob 72 (.load (.t 4) (some 4)),Ob 73 (.mov (.t 1)),Ob 74 (.bin .add (.t 73) (Ci 1)),Ob 75 (.mov (.t 2)),Ob 76 (.mov (.t 12)),Ob 77 (.bin .sub (.t 75) (.t 76)),Ob 78 (.mov (.t 13)),Ob 79 (.call 96 [(.t 72), (.t 74), (.t 77), (.t 78)]),Ob 15 (.mov (.t 79))]))
 (.seq (.region [Ob 16 (.mov (Ci 0))])
 (.block 4 (.loop (.seq (.seq (.region [Ob 80 (.mov (.t 16)),Ob 81 (.mov (.t 15)),Ob 82 (.len (.t 81)),Ob 83 (.bin .lss (.t 80) (.t 82))])
 (.cond (.t 83) (.skip)
 (.exit 4)))
 (.seq (.block 5 (.region [Ob 86 (.mov (.t 9)),Ob 87 (.mov (.t 10)),Ob 88 (.mov (.t 11)),Ob 89 (.idx (.t 87) (.t 88) 1),Ob 90 (.load (.t 89) none),Ob 91 (.lit false 22 1 [(.t 90)]),Ob 92 (.mov (.t 15)),Ob 93 (.mov (.t 16)),Ob 94 (.idx (.t 92) (.t 93) 1),Ob 95 (.load (.t 94) none),Ob 96 (.app false (.t 91) (.t 95) 22 1 24),Ob 97 (.lit false 42 1 [(.t 96)]),Ob 98 (.app false (.t 86) (.t 97) 42 1 24),Ob 9 (.mov (.t 98))]))
 (.region [Ob 84 (.mov (.t 16)),Ob 85 (.bin .add (.t 84) (Ci 1)),Ob 16 (.mov (.t 85))]))))))))))))
 (.region [Ob 38 (.mov (.t 11)),Ob 39 (.bin .add (.t 38) (Ci 1)),Ob 11 (.mov (.t 39))]))))))
 (.seq (.region [Ob 99 (.mov (.t 9)),Ob 8 (.mov (.t 99))])
 (.ret))))))
def r96 : List Res := [.t 8]
def a96 : AFn := ⟨4, c96, r96,.v⟩

def c97 : ACode := .seq (.region [Ob 6 (.box (.t 0) 3)])
 (.seq (.seq (.region [Ob 10 (.mov (.t 1)),Ob 11 (.bin .eql (.t 10) (Ci 3))])
 (.cond (.t 11) (.seq (.seq (.region [Ob 12 (.mov (.t 2)),Ob 13 (.bin .eql (.t 12) (Ci 0))])
 (.cond (.t 13) (.region [Ob 14 (.load (.t 3) none),Ob 15 (.load (.t 6) (some 3)),Ob 16 (.lit false 64 3 [(.t 15)]),Ob 17 (.app false (.t 14) (.t 16) 64 3 24),On (.store (.t 3) (.t 17) 1)])
 (.skip)))
 (.ret))
 (.skip)))
 (.seq (.region [Ob 18 (.mov (.t 2)),Ob 19 (.mov (.t 1)),Ob 20 (.aidx (.t 4) (.t 19) 3 1),Ob 21 (.load (.t 20) none),Ob 22 (.mnx false (.t 18) (.t 21)),Ob 23 (.bin .add (.t 22) (Ci 1)),Ob 24 (.mov (Ci 0))])
 (.block 0 (.loop (.seq (.region [Ob 25 (.bin .lss (.t 24) (.t 23))])
 (.seq (.cond (.t 25) (.skip)
 (.exit 0))
 (.seq (.block 1 (.seq (.region [Ob 26 (.mov (.t 24)),Ob 9 (.mov (.t 26))])
 (.seq (.region [Ob 27 (.mov (.t 1)),Ob 28 (.mov (.t 9)),Ob 29 (.aidx (.t 6) (.t 27) 3 1),On (.store (.t 29) (.t 28) 1)])
 (.region [Ob 30 (.load (.t 5) none),Ob 31 (.load (.t 6) (some 3)),Ob 32 (.mov (.t 1)),Ob 33 (.bin .add (.t 32) (Ci 1)),Ob 34 (.mov (.t 2)),Ob 35 (.mov (.t 9)),Ob 36 (.bin .sub (.t 34) (.t 35)),Ob 37 (.callv (.t 30) [(.t 31), (.t 33), (.t 36)])]))))
 (.region [Ob 38 (.bin .add (.t 24) (Ci 1)),Ob 24 (.mov (.t 38))]))))))))
def r97 : List Res := []
def a97 : AFn := ⟨6, c97, r97,.r⟩

def c98 : ACode := .seq (.region [Ob 3 (.box (.t 0) 3)])
 (.seq (.region [Ob 8 (.load (.t 2) none),Ob 9 (.load (.t 3) (some 3)),Ob 10 (.mget (.n 3) (.int .i64 0) true (.t 8) (.t 9)),Ob 7 (.mov (.t 10)),Ob 11 (.ext (.t 7) 0),Ob 12 (.ext (.t 7) 1),Ob 5 (.mov (.t 11)),Ob 6 (.mov (.t 12))])
 (.seq (.region [Ob 13 (.mov (.t 6)),Ob 14 (.not (.t 13)),Ob 15 (.mov (.t 14)),Og 16 15 false (.mov (.t 1)),Og 17 15 false (.mov (.t 5)),Og 18 15 false (.bin .lss (.t 16) (.t 17)),Ob 19 (.pick (.t 15) (.c (.bool true)) (.t 18))])
 (.cond (.t 19) (.region [Ob 20 (.load (.t 2) none),Ob 21 (.load (.t 3) (some 3)),Ob 22 (.mov (.t 1)),On (.mput (.n 3) (.t 20) (.t 21) (.t 22))])
 (.skip))))
def r98 : List Res := []
def a98 : AFn := ⟨3, c98, r98,.r⟩

def c99 : ACode := .seq (.region [Ob 10 (.mov (.t 1)),Ob 11 (.bin .add (.t 10) (Ci 1)),Ob 8 (.mov (.t 11))])
 (.block 0 (.loop (.seq (.seq (.region [Ob 12 (.mov (.t 8)),Ob 13 (.mov (.t 2)),Ob 14 (.bin .lss (.t 12) (.t 13))])
 (.cond (.t 14) (.skip)
 (.exit 0)))
 (.seq (.block 1 (.seq (.region [Ob 17 (.mov (.t 8)),Ob 9 (.mov (.t 17))])
 (.block 2 (.loop (.seq (.seq (.region [Ob 18 (.mov (.t 9)),Ob 19 (.mov (.t 1)),Ob 20 (.bin .gtr (.t 18) (.t 19)),Ob 21 (.mov (.t 20)),Og 22 21 true (.mov (.t 3)),Og 23 21 true (.mov (.t 0)),Og 24 21 true (.mov (.t 9)),Og 25 21 true (.idx (.t 23) (.t 24) 1),Og 26 21 true (.load (.t 25) none),Og 27 21 true (.mov (.t 0)),Og 28 21 true (.mov (.t 9)),Og 29 21 true (.bin .sub (.t 28) (Ci 1)),Og 30 21 true (.idx (.t 27) (.t 29) 1),Og 31 21 true (.load (.t 30) none),Og 32 21 true (.callz (.t 22) [(.t 26), (.t 31)]),Og 33 21 true (.bin .lss (.t 32) (Ci 0)),Ob 34 (.pick (.t 21) (.t 33) (.c (.bool false)))])
 (.cond (.t 34) (.skip)
 (.exit 2)))
 (.seq (.block 3 (.region [Ob 37 (.mov (.t 0)),Ob 38 (.mov (.t 9)),Ob 39 (.mov (.t 0)),Ob 40 (.mov (.t 9)),Ob 41 (.bin .sub (.t 40) (Ci 1)),Ob 42 (.mov (.t 0)),Ob 43 (.mov (.t 9)),Ob 44 (.bin .sub (.t 43) (Ci 1)),Ob 45 (.idx (.t 42) (.t 44) 1),Ob 46 (.load (.t 45) none),Ob 47 (.mov (.t 0)),Ob 48 (.mov (.t 9)),Ob 49 (.idx (.t 47) (.t 48) 1),Ob 50 (.load (.t 49) none),Ob 51 (.idx (.t 37) (.t 38) 1),On (.store (.t 51) (.t 46) 1),Ob 52 (.idx (.t 39) (.t 41) 1),On (.store (.t 52) (.t 50) 1)]))
 (.region [Ob 35 (.mov (.t 9)),Ob 36 (.bin .sub (.t 35) (Ci 1)),Ob 9 (.mov (.t 36))])))))))
 (.region [Ob 15 (.mov (.t 8)),Ob 16 (.bin .add (.t 15) (Ci 1)),Ob 8 (.mov (.t 16))])))))
def r99 : List Res := []
def a99 : AFn := ⟨4, c99, r99,.r⟩

def c100 : ACode := .seq (.seq (.region [Ob 25 (.mov (.t 2)),Ob 26 (.mov (.t 1)),Ob 27 (.bin .sub (.t 25) (.t 26)),Ob 28 (.bin .eql (.t 27) (Ci 1))])
 (.cond (.t 28) (.seq (.region [Ob 29 (.mov (.t 2)),Ob 10 (.mov (.t 29))])
 (.seq (.region [Ob 30 (.mov (.t 3)),Ob 11 (.mov (.t 30))])
 (.seq (.block 0 (.loop (.seq (.seq (.region [Ob 31 (.mov (.t 10)),Ob 32 (.mov (.t 11)),Ob 33 (.bin .lss (.t 31) (.t 32))])
 (.cond (.t 33) (.skip)
 (.exit 0)))
 (.block 1 (.seq (.region [Ob 34 (.mov (.t 10)),Ob 35 (.mov (.t 11)),Ob 36 (.bin .add (.t 34) (.t 35)),Ob 37 (.conv .u64 (.t 36)),Ob 38 (.bin .shr (.t 37) (.c (.int .u64 1))),Ob 39 (.conv .i64 (.t 38)),Ob 12 (.mov (.t 39))])
 (.seq (.region [Ob 40 (.mov (.t 4)),Ob 41 (.mov (.t 0)),Ob 42 (.mov (.t 12)),Ob 43 (.idx (.t 41) (.t 42) 1),Ob 44 (.load (.t 43) none),Ob 45 (.mov (.t 0)),Ob 46 (.mov (.t 1)),Ob 47 (.idx (.t 45) (.t 46) 1),Ob 48 (.load (.t 47) none),Ob 49 (.callv (.t 40) [(.t 44), (.t 48)]),Ob 50 (.bin .lss (.t 49) (Ci 0))])
 (.cond (.t 50) (.region [Ob 51 (.mov (.t 12)),Ob 52 (.bin .add (.t 51) (Ci 1)),Ob 10 (.mov (.t 52))])
 (.region [Ob 53 (.mov (.t 12)),Ob 11 (.mov (.t 53))]))))))))
 (.seq (.seq (.region [Ob 54 (.mov (.t 1)),Ob 13 (.mov (.t 54))])
 (.block 2 (.loop (.seq (.seq (.region [Ob 55 (.mov (.t 13)),Ob 56 (.mov (.t 10)),Ob 57 (.bin .sub (.t 56) (Ci 1)),Ob 58 (.bin .lss (.t 55) (.t 57))])
 (.cond (.t 58) (.skip)
 (.exit 2)))
 (.seq (.block 3 (.region [Ob 61 (.mov (.t 0)),Ob 62 (.mov (.t 13)),Ob 63 (.mov (.t 0)),Ob 64 (.mov (.t 13)),Ob 65 (.bin .add (.t 64) (Ci 1)),Ob 66 (.mov (.t 0)),Ob 67 (.mov (.t 13)),Ob 68 (.bin .add (.t 67) (Ci 1)),Ob 69 (.idx (.t 66) (.t 68) 1),Ob 70 (.load (.t 69) none),Ob 71 (.mov (.t 0)),Ob 72 (.mov (.t 13)),Ob 73 (.idx (.t 71) (.t 72) 1),Ob 74 (.load (.t 73) none),Ob 75 (.idx (.t 61) (.t 62) 1),On (.store (.t 75) (.t 70) 1),Ob 76 (.idx (.t 63) (.t 65) 1),On (.store (.t 76) (.t 74) 1)]))
 (.region [Ob 59 (.mov (.t 13)),Ob 60 (.bin .add (.t 59) (Ci 1)),Ob 13 (.mov (.t 60))]))))))
 (.ret)))))
 (.skip)))
 (.seq (.seq (.region [Ob 77 (.mov (.t 3)),Ob 78 (.mov (.t 2)),Ob 79 (.bin .sub (.t 77) (.t 78)),Ob 80 (.bin .eql (.t 79) (Ci 1))])
 (.cond (.t 80) (.seq (.region [Ob 81 (.mov (.t 1)),Ob 14 (.mov (.t 81))])
 (.seq (.region [Ob 82 (.mov (.t 2)),Ob 15 (.mov (.t 82))])
 (.seq (.block 4 (.loop (.seq (.seq (.region [Ob 83 (.mov (.t 14)),Ob 84 (.mov (.t 15)),Ob 85 (.bin .lss (.t 83) (.t 84))])
 (.cond (.t 85) (.skip)
 (.exit 4)))
 (.block 5 (.seq (.region [Ob 86 (.mov (.t 14)),Ob 87 (.mov (.t 15)),Ob 88 (.bin .add (.t 86) (.t 87)),Ob 89 (.conv .u64 (.t 88)),Ob 90 (.bin .shr (.t 89) (.c (.int .u64 1))),Ob 91 (.conv .i64 (.t 90)),Ob 16 (.mov (.t 91))])
 (.seq (.region [Ob 92 (.mov (.t 4)),Ob 93 (.mov (.t 0)),Ob 94 (.mov (.t 2)),Ob 95 (.idx (.t 93) (.t 94) 1),Ob 96 (.load (.t 95) none),Ob 97 (.mov (.t 0)),Ob 98 (.mov (.t 16)),Ob 99 (.idx (.t 97) (.t 98) 1),Ob 100 (.load (.t 99) none),Ob 101 (.callv (.t 92) [(.t 96), (.t 100)]),Ob 102 (.bin .lss (.t 101) (Ci 0)),Ob 103 (.not (.t 102))])
 (.cond (.t 103) (.region [Ob 104 (.mov (.t 16)),Ob 105 (.bin .add (.t 104) (Ci 1)),Ob 14 (.mov (.t 105))])
 (.region [Ob 106 (.mov (.t 16)),Ob 15 (.mov (.t 106))]))))))))
 (.seq (.seq (.region [Ob 107 (.mov (.t 2)),Ob 17 (.mov (.t 107))])
 (.block 6 (.loop (.seq (.seq (.region [Ob 108 (.mov (.t 17)),Ob 109 (.mov (.t 14)),Ob 110 (.bin .gtr (.t 108) (.t 109))])
 (.cond (.t 110) (.skip)
 (.exit 6)))
 (.seq (.block 7 (.region [Ob 113 (.mov (.t 0)),Ob 114 (.mov (.t 17)),Ob 115 (.mov (.t 0)),Ob 116 (.mov (.t 17)),Ob 117 (.bin .sub (.t 116) (Ci 1)),Ob 118 (.mov (.t 0)),Ob 119 (.mov (.t 17)),Ob 120 (.bin .sub (.t 119) (Ci 1)),Ob 121 (.idx (.t 118) (.t 120) 1),Ob 122 (.load (.t 121) none),Ob 123 (.mov (.t 0)),Ob 124 (.mov (.t 17)),Ob 125 (.idx (.t 123) (.t 124) 1),Ob 126 (.load (.t 125) none),Ob 127 (.idx (.t 113) (.t 114) 1),On (.store (.t 127) (.t 122) 1),Ob 128 (.idx (.t 115) (.t 117) 1),On (.store (.t 128) (.t 126) 1)]))
 (.region [Ob 111 (.mov (.t 17)),Ob 112 (.bin .sub (.t 111) (Ci 1)),Ob 17 (.mov (.t 112))]))))))
 (.ret)))))
 (.skip)))
 (.seq (.region [Ob 129 (.mov (.t 1)),Ob 130 (.mov (.t 3)),Ob 131 (.bin .add (.t 129) (.t 130)),Ob 132 (.conv .u64 (.t 131)),Ob 133 (.bin .shr (.t 132) (.c (.int .u64 1))),Ob 134 (.conv .i64 (.t 133)),Ob 18 (.mov (.t 134))])
 (.seq (.region [Ob 135 (.mov (.t 18)),Ob 136 (.mov (.t 2)),Ob 137 (.bin .add (.t 135) (.t 136)),Ob 19 (.mov (.t 137))])
 (.seq (.region [Ob 20 (.mov (Ci 0)),Ob 21 (.mov (Ci 0))])
 (.seq (.seq (.region [Ob 138 (.mov (.t 2)),Ob 139 (.mov (.t 18)),Ob 140 (.bin .gtr (.t 138) (.t 139))])
 (.cond (.t 140) (.seq (.region [Ob 141 (.mov (.t 19)),Ob 142 (.mov (.t 3)),Ob 143 (.bin .sub (.t 141) (.t 142)),Ob 20 (.mov (.t 143))])
 (.region [Ob 144 (.mov (.t 18)),Ob 21 (.mov (.t 144))]))
 (.seq (.region [Ob 145 (.mov (.t 1)),Ob 20 (.mov (.t 145))])
 (.region [Ob 146 (.mov (.t 2)),Ob 21 (.mov (.t 146))]))))
 (.seq (.region [Ob 147 (.mov (.t 19)),Ob 148 (.bin .sub (.t 147) (Ci 1)),Ob 22 (.mov (.t 148))])
 (.seq (.block 8 (.loop (.seq (.seq (.region [Ob 149 (.mov (.t 20)),Ob 150 (.mov (.t 21)),Ob 151 (.bin .lss (.t 149) (.t 150))])
 (.cond (.t 151) (.skip)
 (.exit 8)))
 (.block 9 (.seq (.region [Ob 152 (.mov (.t 20)),Ob 153 (.mov (.t 21)),Ob 154 (.bin .add (.t 152) (.t 153)),Ob 155 (.conv .u64 (.t 154)),Ob 156 (.bin .shr (.t 155) (.c (.int .u64 1))),Ob 157 (.conv .i64 (.t 156)),Ob 23 (.mov (.t 157))])
 (.seq (.region [Ob 158 (.mov (.t 4)),Ob 159 (.mov (.t 0)),Ob 160 (.mov (.t 22)),Ob 161 (.mov (.t 23)),Ob 162 (.bin .sub (.t 160) (.t 161)),Ob 163 (.idx (.t 159) (.t 162) 1),Ob 164 (.load (.t 163) none),Ob 165 (.mov (.t 0)),Ob 166 (.mov (.t 23)),Ob 167 (.idx (.t 165) (.t 166) 1),Ob 168 (.load (.t 167) none),Ob 169 (.callv (.t 158) [(.t 164), (.t 168)]),Ob 170 (.bin .lss (.t 169) (Ci 0)),Ob 171 (.not (.t 170))])
 (.cond (.t 171) (.region [Ob 172 (.mov (.t 23)),Ob 173 (.bin .add (.t 172) (Ci 1)),Ob 20 (.mov (.t 173))])
 (.region [Ob 174 (.mov (.t 23)),Ob 21 (.mov (.t 174))]))))))))
 (.seq (.region [Ob 175 (.mov (.t 19)),Ob 176 (.mov (.t 20)),Ob 177 (.bin .sub (.t 175) (.t 176)),Ob 24 (.mov (.t 177))])
 (.seq (.seq (.region [Ob 178 (.mov (.t 20)),Ob 179 (.mov (.t 2)),Ob 180 (.bin .lss (.t 178) (.t 179)),Ob 181 (.mov (.t 180)),Og 182 181 true (.mov (.t 2)),Og 183 181 true (.mov (.t 24)),Og 184 181 true (.bin .lss (.t 182) (.t 183)),Ob 185 (.pick (.t 181) (.t 184) (.c (.bool false)))])
 (.cond (.t 185) (.region [Ob 186 (.mov (.t 0)),Ob 187 (.mov (.t 20)),Ob 188 (.mov (.t 2)),Ob 189 (.mov (.t 24)),Ob 190 (.mov (.t 4)),Ob 191 (.call 104 [(.t 186), (.t 187), (.t 188), (.t 189), (.t 190)])])
 (.skip)))
 (.seq (.seq (.region [Ob 192 (.mov (.t 1)),Ob 193 (.mov (.t 20)),Ob 194 (.bin .lss (.t 192) (.t 193)),Ob 195 (.mov (.t 194)),Og 196 195 true (.mov (.t 20)),Og 197 195 true (.mov (.t 18)),Og 198 195 true (.bin .lss (.t 196) (.t 197)),Ob 199 (.pick (.t 195) (.t 198) (.c (.bool false)))])
 (.cond (.t 199) (.region [Ob 200 (.mov (.t 0)),Ob 201 (.mov (.t 1)),Ob 202 (.mov (.t 20)),Ob 203 (.mov (.t 18)),Ob 204 (.mov (.t 4)),Ob 205 (.call 100 [(.t 200), (.t 201), (.t 202), (.t 203), (.t 204)])])
 (.skip)))
 (.seq (.region [Ob 206 (.mov (.t 18)),Ob 207 (.mov (.t 24)),Ob 208 (.bin .lss (.t 206) (.t 207)),Ob 209 (.mov (.t 208)),Og 210 209 true (.mov (.t 24)),Og 211 209 true (.mov (.t 3)),Og 212 209 true (.bin .lss (.t 210) (.t 211)),Ob 213 (.pick (.t 209) (.t 212) (.c (.bool false)))])
 (.cond (.t 213) (.region [Ob 214 (.mov (.t 0)),Ob 215 (.mov (.t 18)),Ob 216 (.mov (.t 24)),Ob 217 (.mov (.t 3)),Ob 218 (.mov (.t 4)),Ob 219 (.call 100 [(.t 214), (.t 215), (.t 216), (.t 217), (.t 218)])])
 (.skip)))))))))))))
def r100 : List Res := []
def a100 : AFn := ⟨5, c100, r100,.v⟩

def c101 : ACode := .seq (.region [Ob 2 (.mov (.c (.bool false)))])
 (.seq (.region [Ob 3 (.mov (.t 0)),Ob 4 (.mov (.t 0)),Ob 5 (.bin .neq (.t 3) (.t 4)),Ob 2 (.mov (.t 5))])
 (.ret))
def r101 : List Res := [.t 2]
def a101 : AFn := ⟨1, c101, r101,.v⟩

def c102 : ACode := .seq (.region [Ob 4 (.mov (Ci 0))])
 (.seq (.seq (.region [Ob 6 (.mov (.t 0)),Ob 7 (.len (.t 6)),Ob 8 (.mov (Ci 0))])
 (.block 0 (.loop (.seq (.region [Ob 9 (.bin .lss (.t 8) (.t 7))])
 (.seq (.cond (.t 9) (.skip)
 (.exit 0))
 (.seq (.block 1 (.seq (.region [Ob 10 (.mov (.t 8)),Ob 5 (.mov (.t 10))])
 (.seq (.region [Ob 11 (.mov (.t 1)),Ob 12 (.mov (.t 0)),Ob 13 (.mov (.t 5)),Ob 14 (.idx (.t 12) (.t 13) 1),Ob 15 (.load (.t 14) none),Ob 16 (.callz (.t 11) [(.t 15)])])
 (.cond (.t 16) (.seq (.region [Ob 17 (.mov (.t 5)),Ob 4 (.mov (.t 17))])
 (.ret))
 (.skip)))))
 (.region [Ob 18 (.bin .add (.t 8) (Ci 1)),Ob 8 (.mov (.t 18))])))))))
 (.seq (.region [Ob 4 (.mov (Ci (-1)))])
 (.ret)))
def r102 : List Res := [.t 4]
def a102 : AFn := ⟨2, c102, r102,.v⟩

def c103 : ACode := .seq (.region [Ob 4 (.mov (.c (.sl [] .tight)))])
 (.seq (.seq (.region [Ob 9 (.mov (.t 1)),Ob 10 (.len (.t 9)),Ob 11 (.bin .eql (.t 10) (Ci 0))])
 (.cond (.t 11) (.seq (.seq (.region [Ob 12 (.mov (.t 0)),Ob 13 (.bin .eql (.t 12) (Ci 0))])
 (.cond (.t 13) (.seq (.region [Ob 14 (.lit false 22 1 [(.c (.sl [] .tight))]),Ob 4 (.mov (.t 14))])
 (.ret))
 (.skip)))
 (.seq (.region [Ob 4 (.mov (.c (.sl [] .tight)))])
 (.ret)))
 (.skip)))
 (.seq (.region [Ob 5 (.mov (.c (.sl [] .tight)))])
 (.seq (.seq (.region [Ob 6 (.mov (Ci 0))])
 (.block 0 (.loop (.seq (.seq (.region [Ob 15 (.mov (.t 6)),Ob 16 (.mov (.t 0)),Ob 17 (.bin .leq (.t 15) (.t 16)),Ob 18 (.mov (.t 17)),Og 19 18 true (.mov (.t 6)),Og 20 18 true (.mov (.t 1)),Og 21 18 true (.idx (.t 20) (Ci 0) 1),Og 22 18 true (.load (.t 21) none),Og 23 18 true (.bin .leq (.t 19) (.t 22)),Ob 24 (.pick (.t 18) (.t 23) (.c (.bool false)))])
 (.cond (.t 24) (.skip)
 (.exit 0)))
 (.seq (.block 1 (.seq (.region [Ob 27 (.mov (.t 0)),Ob 28 (.mov (.t 6)),Ob 29 (.bin .sub (.t 27) (.t 28)),Ob 30 (.mov (.t 1)),Ob 31 (.slice (.t 30) (some (Ci 1)) none 1),Ob 32 (.call 103 [(.t 29), (.t 31)]),Ob 7 (.mov (.t 32))])
 (.seq (.region [Ob 8 (.mov (Ci 0))])
 (.block 2 (.loop (.seq (.seq (.region [Ob 33 (.mov (.t 8)),Ob 34 (.mov (.t 7)),Ob 35 (.len (.t 34)),Ob 36 (.bin .lss (.t 33) (.t 35))])
 (.cond (.t 36) (.skip)
 (.exit 2)))
 (.seq (.block 3 (.region [Ob 39 (.mov (.t 5)),Ob 40 (.mov (.t 6)),Ob 41 (.lit false 3 1 [(.t 40)]),Ob 42 (.mov (.t 7)),Ob 43 (.mov (.t 8)),Ob 44 (.idx (.t 42) (.t 43) 1),Ob 45 (.load (.t 44) none),Ob 46 (.app false (.t 41) (.t 45) 3 1 8),Ob 47 (.lit false 22 1 [(.t 46)]),Ob 48 (.app false (.t 39) (.t 47) 22 1 24),Ob 5 (.mov (.t 48))]))
 (.region [Ob 37 (.mov (.t 8)),Ob 38 (.bin .add (.t 37) (Ci 1)),Ob 8 (.mov (.t 38))]))))))))
 (.region [Ob 25 (.mov (.t 6)),Ob 26 (.bin .add (.t 25) (Ci 1)),Ob 6 (.mov (.t 26))]))))))
 (.seq (.region [Ob 49 (.mov (.t 5)),Ob 4 (.mov (.t 49))])
 (.ret)))))
def r103 : List Res := [.t 4]
def a103 : AFn := ⟨2, c103, r103,.v⟩

def c104 : ACode := .seq (.region [Ob 12 (.mov (.t 2)),Ob 13 (.mov (.t 1)),Ob 14 (.bin .sub (.t 12) (.t 13)),Ob 10 (.mov (.t 14))])
 (.seq (.region [Ob 15 (.mov (.t 3)),Ob 16 (.mov (.t 2)),Ob 17 (.bin .sub (.t 15) (.t 16)),Ob 11 (.mov (.t 17))])
 (.seq (.block 0 (.loop (.seq (.seq (.region [Ob 18 (.mov (.t 10)),Ob 19 (.mov (.t 11)),Ob 20 (.bin .neq (.t 18) (.t 19))])
 (.cond (.t 20) (.skip)
 (.exit 0)))
 (.block 1 (.seq (.region [Ob 21 (.mov (.t 10)),Ob 22 (.mov (.t 11)),Ob 23 (.bin .gtr (.t 21) (.t 22))])
 (.cond (.t 23) (.seq (.region [Ob 24 (.mov (.t 0)),Ob 25 (.mov (.t 2)),Ob 26 (.mov (.t 10)),Ob 27 (.bin .sub (.t 25) (.t 26)),Ob 28 (.mov (.t 2)),Ob 29 (.mov (.t 11)),Ob 30 (.mov (.t 4)),Ob 31 (.call 105 [(.t 24), (.t 27), (.t 28), (.t 29), (.t 30)])])
 (.region [Ob 32 (.mov (.t 10)),Ob 33 (.mov (.t 11)),Ob 34 (.bin .sub (.t 32) (.t 33)),Ob 10 (.mov (.t 34))]))
 (.seq (.region [Ob 35 (.mov (.t 0)),Ob 36 (.mov (.t 2)),Ob 37 (.mov (.t 10)),Ob 38 (.bin .sub (.t 36) (.t 37)),Ob 39 (.mov (.t 2)),Ob 40 (.mov (.t 11)),Ob 41 (.bin .add (.t 39) (.t 40)),Ob 42 (.mov (.t 10)),Ob 43 (.bin .sub (.t 41) (.t 42)),Ob 44 (.mov (.t 10)),Ob 45 (.mov (.t 4)),Ob 46 (.call 105 [(.t 35), (.t 38), (.t 43), (.t 44), (.t 45)])])
 (.region [Ob 47 (.mov (.t 11)),Ob 48 (.mov (.t 10)),Ob 49 (.bin .sub (.t 47) (.t 48)),Ob 11 (.mov (.t 49))]))))))))
 (.region [Ob 50 (.mov (.t 0)),Ob 51 (.mov (.t 2)),Ob 52 (.mov (.t 10)),Ob 53 (.bin .sub (.t 51) (.t 52)),Ob 54 (.mov (.t 2)),Ob 55 (.mov (.t 10)),Ob 56 (.mov (.t 4)),Ob 57 (.call 105 [(.t 50), (.t 53), (.t 54), (.t 55), (.t 56)])])))
def r104 : List Res := []
def a104 : AFn := ⟨5, c104, r104,.v⟩

def c105 : ACode := .seq (.region [Ob 10 (.mov (Ci 0))])
 (.block 0 (.loop (.seq (.seq (.region [Ob 11 (.mov (.t 10)),Ob 12 (.mov (.t 3)),Ob 13 (.bin .lss (.t 11) (.t 12))])
 (.cond (.t 13) (.skip)
 (.exit 0)))
 (.seq (.block 1 (.region [Ob 16 (.mov (.t 0)),Ob 17 (.mov (.t 1)),Ob 18 (.mov (.t 10)),Ob 19 (.bin .add (.t 17) (.t 18)),Ob 20 (.mov (.t 0)),Ob 21 (.mov (.t 2)),Ob 22 (.mov (.t 10)),Ob 23 (.bin .add (.t 21) (.t 22)),Ob 24 (.mov (.t 0)),Ob 25 (.mov (.t 2)),Ob 26 (.mov (.t 10)),Ob 27 (.bin .add (.t 25) (.t 26)),Ob 28 (.idx (.t 24) (.t 27) 1),Ob 29 (.load (.t 28) none),Ob 30 (.mov (.t 0)),Ob 31 (.mov (.t 1)),Ob 32 (.mov (.t 10)),Ob 33 (.bin .add (.t 31) (.t 32)),Ob 34 (.idx (.t 30) (.t 33) 1),Ob 35 (.load (.t 34) none),Ob 36 (.idx (.t 16) (.t 19) 1),On (.store (.t 36) (.t 29) 1),Ob 37 (.idx (.t 20) (.t 23) 1),On (.store (.t 37) (.t 35) 1)]))
 (.region [Ob 14 (.mov (.t 10)),Ob 15 (.bin .add (.t 14) (Ci 1)),Ob 10 (.mov (.t 15))])))))
def r105 : List Res := []
def a105 : AFn := ⟨5, c105, r105,.v⟩


def ft : FuncId → Option AFn
  | 3 => some a3
  | 4 => some a4
  | 5 => some a5
  | 6 => some a6
  | 7 => some a7
  | 8 => some a8
  | 9 => some a9
  | 10 => some a10
  | 11 => some a11
  | 12 => some a12
  | 13 => some a13
  | 14 => some a14
  | 15 => some a15
  | 16 => some a16
  | 17 => some a17
  | 18 => some a18
  | 19 => some a19
  | 20 => some a20
  | 21 => some a21
  | 22 => some a22
  | 23 => some a23
  | 24 => some a24
  | 25 => some a25
  | 26 => some a26
  | 27 => some a27
  | 28 => some a28
  | 29 => some a29
  | 30 => some a30
  | 31 => some a31
  | 32 => some a32
  | 33 => some a33
  | 34 => some a34
  | 35 => some a35
  | 36 => some a36
  | 37 => some a37
  | 38 => some a38
  | 39 => some a39
  | 40 => some a40
  | 41 => some a41
  | 42 => some a42
  | 43 => some a43
  | 44 => some a44
  | 45 => some a45
  | 46 => some a46
  | 47 => some a47
  | 48 => some a48
  | 49 => some a49
  | 50 => some a50
  | 51 => some a51
  | 52 => some a52
  | 53 => some a53
  | 54 => some a54
  | 55 => some a55
  | 56 => some a56
  | 57 => some a57
  | 58 => some a58
  | 59 => some a59
  | 60 => some a60
  | 61 => some a61
  | 62 => some a62
  | 63 => some a63
  | 64 => some a64
  | 65 => some a65
  | 66 => some a66
  | 67 => some a67
  | 68 => some a68
  | 69 => some a69
  | 70 => some a70
  | 71 => some a71
  | 72 => some a72
  | 73 => some a73
  | 74 => some a74
  | 75 => some a75
  | 76 => some a76
  | 77 => some a77
  | 78 => some a78
  | 79 => some a79
  | 80 => some a80
  | 81 => some a81
  | 82 => some a82
  | 83 => some a83
  | 84 => some a84
  | 85 => some a85
  | 86 => some a86
  | 87 => some a87
  | 88 => some a88
  | 89 => some a89
  | 90 => some a90
  | 91 => some a91
  | 92 => some a92
  | 93 => some a93
  | 94 => some a94
  | 95 => some a95
  | 96 => some a96
  | 97 => some a97
  | 98 => some a98
  | 99 => some a99
  | 100 => some a100
  | 101 => some a101
  | 102 => some a102
  | 103 => some a103
  | 104 => some a104
  | 105 => some a105
  | _ => none
theorem ft3 : ft 3 = some a3 := rfl
theorem ft4 : ft 4 = some a4 := rfl
theorem ft5 : ft 5 = some a5 := rfl
theorem ft6 : ft 6 = some a6 := rfl
theorem ft7 : ft 7 = some a7 := rfl
theorem ft8 : ft 8 = some a8 := rfl
theorem ft9 : ft 9 = some a9 := rfl
theorem ft10 : ft 10 = some a10 := rfl
theorem ft11 : ft 11 = some a11 := rfl
theorem ft12 : ft 12 = some a12 := rfl
theorem ft13 : ft 13 = some a13 := rfl
theorem ft14 : ft 14 = some a14 := rfl
theorem ft15 : ft 15 = some a15 := rfl
theorem ft16 : ft 16 = some a16 := rfl
theorem ft17 : ft 17 = some a17 := rfl
theorem ft18 : ft 18 = some a18 := rfl
theorem ft19 : ft 19 = some a19 := rfl
theorem ft20 : ft 20 = some a20 := rfl
theorem ft21 : ft 21 = some a21 := rfl
theorem ft22 : ft 22 = some a22 := rfl
theorem ft23 : ft 23 = some a23 := rfl
theorem ft24 : ft 24 = some a24 := rfl
theorem ft25 : ft 25 = some a25 := rfl
theorem ft26 : ft 26 = some a26 := rfl
theorem ft27 : ft 27 = some a27 := rfl
theorem ft28 : ft 28 = some a28 := rfl
theorem ft29 : ft 29 = some a29 := rfl
theorem ft30 : ft 30 = some a30 := rfl
theorem ft31 : ft 31 = some a31 := rfl
theorem ft32 : ft 32 = some a32 := rfl
theorem ft33 : ft 33 = some a33 := rfl
theorem ft34 : ft 34 = some a34 := rfl
theorem ft35 : ft 35 = some a35 := rfl
theorem ft36 : ft 36 = some a36 := rfl
theorem ft37 : ft 37 = some a37 := rfl
theorem ft38 : ft 38 = some a38 := rfl
theorem ft39 : ft 39 = some a39 := rfl
theorem ft40 : ft 40 = some a40 := rfl
theorem ft41 : ft 41 = some a41 := rfl
theorem ft42 : ft 42 = some a42 := rfl
theorem ft43 : ft 43 = some a43 := rfl
theorem ft44 : ft 44 = some a44 := rfl
theorem ft45 : ft 45 = some a45 := rfl
theorem ft46 : ft 46 = some a46 := rfl
theorem ft47 : ft 47 = some a47 := rfl
theorem ft48 : ft 48 = some a48 := rfl
theorem ft49 : ft 49 = some a49 := rfl
theorem ft50 : ft 50 = some a50 := rfl
theorem ft51 : ft 51 = some a51 := rfl
theorem ft52 : ft 52 = some a52 := rfl
theorem ft53 : ft 53 = some a53 := rfl
theorem ft54 : ft 54 = some a54 := rfl
theorem ft55 : ft 55 = some a55 := rfl
theorem ft56 : ft 56 = some a56 := rfl
theorem ft57 : ft 57 = some a57 := rfl
theorem ft58 : ft 58 = some a58 := rfl
theorem ft59 : ft 59 = some a59 := rfl
theorem ft60 : ft 60 = some a60 := rfl
theorem ft61 : ft 61 = some a61 := rfl
theorem ft62 : ft 62 = some a62 := rfl
theorem ft63 : ft 63 = some a63 := rfl
theorem ft64 : ft 64 = some a64 := rfl
theorem ft65 : ft 65 = some a65 := rfl
theorem ft66 : ft 66 = some a66 := rfl
theorem ft67 : ft 67 = some a67 := rfl
theorem ft68 : ft 68 = some a68 := rfl
theorem ft69 : ft 69 = some a69 := rfl
theorem ft70 : ft 70 = some a70 := rfl
theorem ft71 : ft 71 = some a71 := rfl
theorem ft72 : ft 72 = some a72 := rfl
theorem ft73 : ft 73 = some a73 := rfl
theorem ft74 : ft 74 = some a74 := rfl
theorem ft75 : ft 75 = some a75 := rfl
theorem ft76 : ft 76 = some a76 := rfl
theorem ft77 : ft 77 = some a77 := rfl
theorem ft78 : ft 78 = some a78 := rfl
theorem ft79 : ft 79 = some a79 := rfl
theorem ft80 : ft 80 = some a80 := rfl
theorem ft81 : ft 81 = some a81 := rfl
theorem ft82 : ft 82 = some a82 := rfl
theorem ft83 : ft 83 = some a83 := rfl
theorem ft84 : ft 84 = some a84 := rfl
theorem ft85 : ft 85 = some a85 := rfl
theorem ft86 : ft 86 = some a86 := rfl
theorem ft87 : ft 87 = some a87 := rfl
theorem ft88 : ft 88 = some a88 := rfl
theorem ft89 : ft 89 = some a89 := rfl
theorem ft90 : ft 90 = some a90 := rfl
theorem ft91 : ft 91 = some a91 := rfl
theorem ft92 : ft 92 = some a92 := rfl
theorem ft93 : ft 93 = some a93 := rfl
theorem ft94 : ft 94 = some a94 := rfl
theorem ft95 : ft 95 = some a95 := rfl
theorem ft96 : ft 96 = some a96 := rfl
theorem ft97 : ft 97 = some a97 := rfl
theorem ft98 : ft 98 = some a98 := rfl
theorem ft99 : ft 99 = some a99 := rfl
theorem ft100 : ft 100 = some a100 := rfl
theorem ft101 : ft 101 = some a101 := rfl
theorem ft102 : ft 102 = some a102 := rfl
theorem ft103 : ft 103 = some a103 := rfl
theorem ft104 : ft 104 = some a104 := rfl
theorem ft105 : ft 105 = some a105 := rfl
end Go.Ab.T
end

section
namespace Go.Ab.T
theorem WB3 (s : St) (as : List AV) (K : AV → St → Prop) : WB ft 3 as s K = WV ft 3 (as.map (snap s.mem dep)) fun v => (as.all (fun a => !hot dep a) || plain dep v) = true ∧ K v s := WB_v ft3 rfl as s K
theorem WB4 (s : St) (as : List AV) (K : AV → St → Prop) : WB ft 4 as s K = WV ft 4 (as.map (snap s.mem dep)) fun v => (as.all (fun a => !hot dep a) || plain dep v) = true ∧ K v s := WB_v ft4 rfl as s K
theorem WB5 (s : St) (as : List AV) (K : AV → St → Prop) : WB ft 5 as s K = WV ft 5 (as.map (snap s.mem dep)) fun v => (as.all (fun a => !hot dep a) || plain dep v) = true ∧ K v s := WB_v ft5 rfl as s K
theorem WB6 (s : St) (as : List AV) (K : AV → St → Prop) : WB ft 6 as s K = WV ft 6 (as.map (snap s.mem dep)) fun v => (as.all (fun a => !hot dep a) || plain dep v) = true ∧ K v s := WB_v ft6 rfl as s K
theorem WB7 (s : St) (as : List AV) (K : AV → St → Prop) : WB ft 7 as s K = WV ft 7 (as.map (snap s.mem dep)) fun v => (as.all (fun a => !hot dep a) || plain dep v) = true ∧ K v s := WB_v ft7 rfl as s K
theorem WB8 (s : St) (as : List AV) (K : AV → St → Prop) : WB ft 8 as s K = WV ft 8 (as.map (snap s.mem dep)) fun v => (as.all (fun a => !hot dep a) || plain dep v) = true ∧ K v s := WB_v ft8 rfl as s K
theorem WB9 (s : St) (as : List AV) (K : AV → St → Prop) : WB ft 9 as s K = WV ft 9 (as.map (snap s.mem dep)) fun v => (as.all (fun a => !hot dep a) || plain dep v) = true ∧ K v s := WB_v ft9 rfl as s K
theorem WB10 (s : St) (as : List AV) (K : AV → St → Prop) : WB ft 10 as s K = WV ft 10 (as.map (snap s.mem dep)) fun v => (as.all (fun a => !hot dep a) || plain dep v) = true ∧ K v s := WB_v ft10 rfl as s K
theorem WB11 (s : St) (as : List AV) (K : AV → St → Prop) : WB ft 11 as s K = WV ft 11 (as.map (snap s.mem dep)) fun v => (as.all (fun a => !hot dep a) || plain dep v) = true ∧ K v s := WB_v ft11 rfl as s K
theorem WB12 (s : St) (as : List AV) (K : AV → St → Prop) : WB ft 12 as s K = WV ft 12 (as.map (snap s.mem dep)) fun v => (as.all (fun a => !hot dep a) || plain dep v) = true ∧ K v s := WB_v ft12 rfl as s K
theorem WB13 (s : St) (as : List AV) (K : AV → St → Prop) : WB ft 13 as s K = WV ft 13 (as.map (snap s.mem dep)) fun v => (as.all (fun a => !hot dep a) || plain dep v) = true ∧ K v s := WB_v ft13 rfl as s K
theorem WB14 (s : St) (as : List AV) (K : AV → St → Prop) : WB ft 14 as s K = WV ft 14 (as.map (snap s.mem dep)) fun v => (as.all (fun a => !hot dep a) || plain dep v) = true ∧ K v s := WB_v ft14 rfl as s K
theorem WB15 (s : St) (as : List AV) (K : AV → St → Prop) : WB ft 15 as s K = WV ft 15 (as.map (snap s.mem dep)) fun v => (as.all (fun a => !hot dep a) || plain dep v) = true ∧ K v s := WB_v ft15 rfl as s K
theorem WB16 (s : St) (as : List AV) (K : AV → St → Prop) : WB ft 16 as s K = WV ft 16 (as.map (snap s.mem dep)) fun v => (as.all (fun a => !hot dep a) || plain dep v) = true ∧ K v s := WB_v ft16 rfl as s K
theorem WB17 (s : St) (as : List AV) (K : AV → St → Prop) : WB ft 17 as s K = WV ft 17 (as.map (snap s.mem dep)) fun v => (as.all (fun a => !hot dep a) || plain dep v) = true ∧ K v s := WB_v ft17 rfl as s K
theorem WB18 (s : St) (as : List AV) (K : AV → St → Prop) : WB ft 18 as s K = WV ft 18 (as.map (snap s.mem dep)) fun v => (as.all (fun a => !hot dep a) || plain dep v) = true ∧ K v s := WB_v ft18 rfl as s K
theorem WB19 (s : St) (as : List AV) (K : AV → St → Prop) : WB ft 19 as s K = WV ft 19 (as.map (snap s.mem dep)) fun v => (as.all (fun a => !hot dep a) || plain dep v) = true ∧ K v s := WB_v ft19 rfl as s K
theorem WB20 (s : St) (as : List AV) (K : AV → St → Prop) : WB ft 20 as s K = WV ft 20 (as.map (snap s.mem dep)) fun v => (as.all (fun a => !hot dep a) || plain dep v) = true ∧ K v s := WB_v ft20 rfl as s K
theorem WB21 (s : St) (as : List AV) (K : AV → St → Prop) : WB ft 21 as s K = WV ft 21 (as.map (snap s.mem dep)) fun v => (as.all (fun a => !hot dep a) || plain dep v) = true ∧ K v s := WB_v ft21 rfl as s K
theorem WB22 (s : St) (as : List AV) (K : AV → St → Prop) : WB ft 22 as s K = WV ft 22 (as.map (snap s.mem dep)) fun v => (as.all (fun a => !hot dep a) || plain dep v) = true ∧ K v s := WB_v ft22 rfl as s K
theorem WB23 (s : St) (as : List AV) (K : AV → St → Prop) : WB ft 23 as s K = WV ft 23 (as.map (snap s.mem dep)) fun v => (as.all (fun a => !hot dep a) || plain dep v) = true ∧ K v s := WB_v ft23 rfl as s K
theorem WB24 (s : St) (as : List AV) (K : AV → St → Prop) : WB ft 24 as s K = WV ft 24 (as.map (snap s.mem dep)) fun v => (as.all (fun a => !hot dep a) || plain dep v) = true ∧ K v s := WB_v ft24 rfl as s K
theorem WB25 (s : St) (as : List AV) (K : AV → St → Prop) : WB ft 25 as s K = WV ft 25 (as.map (snap s.mem dep)) fun v => (as.all (fun a => !hot dep a) || plain dep v) = true ∧ K v s := WB_v ft25 rfl as s K
theorem WB26 (s : St) (as : List AV) (K : AV → St → Prop) : WB ft 26 as s K = WV ft 26 (as.map (snap s.mem dep)) fun v => (as.all (fun a => !hot dep a) || plain dep v) = true ∧ K v s := WB_v ft26 rfl as s K
theorem WB27 (s : St) (as : List AV) (K : AV → St → Prop) : WB ft 27 as s K = WV ft 27 (as.map (snap s.mem dep)) fun v => (as.all (fun a => !hot dep a) || plain dep v) = true ∧ K v s := WB_v ft27 rfl as s K
theorem WB28 (s : St) (as : List AV) (K : AV → St → Prop) : WB ft 28 as s K = WV ft 28 (as.map (snap s.mem dep)) fun v => (as.all (fun a => !hot dep a) || plain dep v) = true ∧ K v s := WB_v ft28 rfl as s K
theorem WB29 (s : St) (as : List AV) (K : AV → St → Prop) : WB ft 29 as s K = WV ft 29 (as.map (snap s.mem dep)) fun v => (as.all (fun a => !hot dep a) || plain dep v) = true ∧ K v s := WB_v ft29 rfl as s K
theorem WB30 (s : St) (as : List AV) (K : AV → St → Prop) : WB ft 30 as s K = WV ft 30 (as.map (snap s.mem dep)) fun v => (as.all (fun a => !hot dep a) || plain dep v) = true ∧ K v s := WB_v ft30 rfl as s K
theorem WB31 (s : St) (as : List AV) (K : AV → St → Prop) : WB ft 31 as s K = WV ft 31 (as.map (snap s.mem dep)) fun v => (as.all (fun a => !hot dep a) || plain dep v) = true ∧ K v s := WB_v ft31 rfl as s K
theorem WB32 (s : St) (as : List AV) (K : AV → St → Prop) : WB ft 32 as s K = WV ft 32 (as.map (snap s.mem dep)) fun v => (as.all (fun a => !hot dep a) || plain dep v) = true ∧ K v s := WB_v ft32 rfl as s K
theorem WB33 (s : St) (as : List AV) (K : AV → St → Prop) : WB ft 33 as s K = WV ft 33 (as.map (snap s.mem dep)) fun v => (as.all (fun a => !hot dep a) || plain dep v) = true ∧ K v s := WB_v ft33 rfl as s K
theorem WB34 (s : St) (as : List AV) (K : AV → St → Prop) : WB ft 34 as s K = WV ft 34 (as.map (snap s.mem dep)) fun v => (as.all (fun a => !hot dep a) || plain dep v) = true ∧ K v s := WB_v ft34 rfl as s K
theorem WB35 (s : St) (as : List AV) (K : AV → St → Prop) : WB ft 35 as s K = WV ft 35 (as.map (snap s.mem dep)) fun v => (as.all (fun a => !hot dep a) || plain dep v) = true ∧ K v s := WB_v ft35 rfl as s K
theorem WB36 (s : St) (as : List AV) (K : AV → St → Prop) : WB ft 36 as s K = WV ft 36 (as.map (snap s.mem dep)) fun v => (as.all (fun a => !hot dep a) || plain dep v) = true ∧ K v s := WB_v ft36 rfl as s K
theorem WB37 (s : St) (as : List AV) (K : AV → St → Prop) : WB ft 37 as s K = WV ft 37 (as.map (snap s.mem dep)) fun v => (as.all (fun a => !hot dep a) || plain dep v) = true ∧ K v s := WB_v ft37 rfl as s K
theorem WB38 (s : St) (as : List AV) (K : AV → St → Prop) : WB ft 38 as s K = WV ft 38 (as.map (snap s.mem dep)) fun v => (as.all (fun a => !hot dep a) || plain dep v) = true ∧ K v s := WB_v ft38 rfl as s K
theorem WB39 (s : St) (as : List AV) (K : AV → St → Prop) : WB ft 39 as s K = WV ft 39 (as.map (snap s.mem dep)) fun v => (as.all (fun a => !hot dep a) || plain dep v) = true ∧ K v s := WB_v ft39 rfl as s K
theorem WB40 (s : St) (as : List AV) (K : AV → St → Prop) : WB ft 40 as s K = WV ft 40 (as.map (snap s.mem dep)) fun v => (as.all (fun a => !hot dep a) || plain dep v) = true ∧ K v s := WB_v ft40 rfl as s K
theorem WB41 (s : St) (as : List AV) (K : AV → St → Prop) : WB ft 41 as s K = WV ft 41 (as.map (snap s.mem dep)) fun v => (as.all (fun a => !hot dep a) || plain dep v) = true ∧ K v s := WB_v ft41 rfl as s K
theorem WB42 (s : St) (as : List AV) (K : AV → St → Prop) : WB ft 42 as s K = WV ft 42 (as.map (snap s.mem dep)) fun v => (as.all (fun a => !hot dep a) || plain dep v) = true ∧ K v s := WB_v ft42 rfl as s K
theorem WB43 (s : St) (as : List AV) (K : AV → St → Prop) : WB ft 43 as s K = WV ft 43 (as.map (snap s.mem dep)) fun v => (as.all (fun a => !hot dep a) || plain dep v) = true ∧ K v s := WB_v ft43 rfl as s K
theorem WB44 (s : St) (as : List AV) (K : AV → St → Prop) : WB ft 44 as s K = WV ft 44 (as.map (snap s.mem dep)) fun v => (as.all (fun a => !hot dep a) || plain dep v) = true ∧ K v s := WB_v ft44 rfl as s K
theorem WB45 (s : St) (as : List AV) (K : AV → St → Prop) : WB ft 45 as s K = WV ft 45 (as.map (snap s.mem dep)) fun v => (as.all (fun a => !hot dep a) || plain dep v) = true ∧ K v s := WB_v ft45 rfl as s K
theorem WB46 (s : St) (as : List AV) (K : AV → St → Prop) : WB ft 46 as s K = WR ft (.f 46) as s.mem fun v m => K v (s.setMem m) := WB_r ft46 rfl as s K
theorem WB47 (s : St) (as : List AV) (K : AV → St → Prop) : WB ft 47 as s K = WR ft (.f 47) as s.mem fun v m => K v (s.setMem m) := WB_r ft47 rfl as s K
theorem WB48 (s : St) (as : List AV) (K : AV → St → Prop) : WB ft 48 as s K = WV ft 48 (as.map (snap s.mem dep)) fun v => (as.all (fun a => !hot dep a) || plain dep v) = true ∧ K v s := WB_v ft48 rfl as s K
theorem WB49 (s : St) (as : List AV) (K : AV → St → Prop) : WB ft 49 as s K = WV ft 49 (as.map (snap s.mem dep)) fun v => (as.all (fun a => !hot dep a) || plain dep v) = true ∧ K v s := WB_v ft49 rfl as s K
theorem WB50 (s : St) (as : List AV) (K : AV → St → Prop) : WB ft 50 as s K = WV ft 50 (as.map (snap s.mem dep)) fun v => (as.all (fun a => !hot dep a) || plain dep v) = true ∧ K v s := WB_v ft50 rfl as s K
theorem WB51 (s : St) (as : List AV) (K : AV → St → Prop) : WB ft 51 as s K = WV ft 51 (as.map (snap s.mem dep)) fun v => (as.all (fun a => !hot dep a) || plain dep v) = true ∧ K v s := WB_v ft51 rfl as s K
theorem WB52 (s : St) (as : List AV) (K : AV → St → Prop) : WB ft 52 as s K = WV ft 52 (as.map (snap s.mem dep)) fun v => (as.all (fun a => !hot dep a) || plain dep v) = true ∧ K v s := WB_v ft52 rfl as s K
theorem WB53 (s : St) (as : List AV) (K : AV → St → Prop) : WB ft 53 as s K = WV ft 53 (as.map (snap s.mem dep)) fun v => (as.all (fun a => !hot dep a) || plain dep v) = true ∧ K v s := WB_v ft53 rfl as s K
theorem WB54 (s : St) (as : List AV) (K : AV → St → Prop) : WB ft 54 as s K = WV ft 54 (as.map (snap s.mem dep)) fun v => (as.all (fun a => !hot dep a) || plain dep v) = true ∧ K v s := WB_v ft54 rfl as s K
theorem WB55 (s : St) (as : List AV) (K : AV → St → Prop) : WB ft 55 as s K = WV ft 55 (as.map (snap s.mem dep)) fun v => (as.all (fun a => !hot dep a) || plain dep v) = true ∧ K v s := WB_v ft55 rfl as s K
theorem WB56 (s : St) (as : List AV) (K : AV → St → Prop) : WB ft 56 as s K = WV ft 56 (as.map (snap s.mem dep)) fun v => (as.all (fun a => !hot dep a) || plain dep v) = true ∧ K v s := WB_v ft56 rfl as s K
theorem WB57 (s : St) (as : List AV) (K : AV → St → Prop) : WB ft 57 as s K = WV ft 57 (as.map (snap s.mem dep)) fun v => (as.all (fun a => !hot dep a) || plain dep v) = true ∧ K v s := WB_v ft57 rfl as s K
theorem WB58 (s : St) (as : List AV) (K : AV → St → Prop) : WB ft 58 as s K = WV ft 58 (as.map (snap s.mem dep)) fun v => (as.all (fun a => !hot dep a) || plain dep v) = true ∧ K v s := WB_v ft58 rfl as s K
theorem WB59 (s : St) (as : List AV) (K : AV → St → Prop) : WB ft 59 as s K = WV ft 59 (as.map (snap s.mem dep)) fun v => (as.all (fun a => !hot dep a) || plain dep v) = true ∧ K v s := WB_v ft59 rfl as s K
theorem WB60 (s : St) (as : List AV) (K : AV → St → Prop) : WB ft 60 as s K = WV ft 60 (as.map (snap s.mem dep)) fun v => (as.all (fun a => !hot dep a) || plain dep v) = true ∧ K v s := WB_v ft60 rfl as s K
theorem WB61 (s : St) (as : List AV) (K : AV → St → Prop) : WB ft 61 as s K = WV ft 61 (as.map (snap s.mem dep)) fun v => (as.all (fun a => !hot dep a) || plain dep v) = true ∧ K v s := WB_v ft61 rfl as s K
theorem WB62 (s : St) (as : List AV) (K : AV → St → Prop) : WB ft 62 as s K = WV ft 62 (as.map (snap s.mem dep)) fun v => (as.all (fun a => !hot dep a) || plain dep v) = true ∧ K v s := WB_v ft62 rfl as s K
theorem WB63 (s : St) (as : List AV) (K : AV → St → Prop) : WB ft 63 as s K = WR ft (.f 63) (as.map (snap s.mem dep)) .nil fun v m => (as.all (fun a => !hot dep a) || (ownly dep v && m.blks.all Blk.ownly)) = true ∧
      K (shift s.mem.blks.length s.mem.toks.length dep v) (s.setMem (joinMem s.mem m dep)) := WB_o ft63 rfl as s K
theorem WB64 (s : St) (as : List AV) (K : AV → St → Prop) : WB ft 64 as s K = WV ft 64 (as.map (snap s.mem dep)) fun v => (as.all (fun a => !hot dep a) || plain dep v) = true ∧ K v s := WB_v ft64 rfl as s K
theorem WB65 (s : St) (as : List AV) (K : AV → St → Prop) : WB ft 65 as s K = WV ft 65 (as.map (snap s.mem dep)) fun v => (as.all (fun a => !hot dep a) || plain dep v) = true ∧ K v s := WB_v ft65 rfl as s K
theorem WB66 (s : St) (as : List AV) (K : AV → St → Prop) : WB ft 66 as s K = WV ft 66 (as.map (snap s.mem dep)) fun v => (as.all (fun a => !hot dep a) || plain dep v) = true ∧ K v s := WB_v ft66 rfl as s K
theorem WB67 (s : St) (as : List AV) (K : AV → St → Prop) : WB ft 67 as s K = WV ft 67 (as.map (snap s.mem dep)) fun v => (as.all (fun a => !hot dep a) || plain dep v) = true ∧ K v s := WB_v ft67 rfl as s K
theorem WB68 (s : St) (as : List AV) (K : AV → St → Prop) : WB ft 68 as s K = WV ft 68 (as.map (snap s.mem dep)) fun v => (as.all (fun a => !hot dep a) || plain dep v) = true ∧ K v s := WB_v ft68 rfl as s K
theorem WB69 (s : St) (as : List AV) (K : AV → St → Prop) : WB ft 69 as s K = WV ft 69 (as.map (snap s.mem dep)) fun v => (as.all (fun a => !hot dep a) || plain dep v) = true ∧ K v s := WB_v ft69 rfl as s K
theorem WB70 (s : St) (as : List AV) (K : AV → St → Prop) : WB ft 70 as s K = WV ft 70 (as.map (snap s.mem dep)) fun v => (as.all (fun a => !hot dep a) || plain dep v) = true ∧ K v s := WB_v ft70 rfl as s K
theorem WB71 (s : St) (as : List AV) (K : AV → St → Prop) : WB ft 71 as s K = WV ft 71 (as.map (snap s.mem dep)) fun v => (as.all (fun a => !hot dep a) || plain dep v) = true ∧ K v s := WB_v ft71 rfl as s K
theorem WB72 (s : St) (as : List AV) (K : AV → St → Prop) : WB ft 72 as s K = WV ft 72 (as.map (snap s.mem dep)) fun v => (as.all (fun a => !hot dep a) || plain dep v) = true ∧ K v s := WB_v ft72 rfl as s K
theorem WB73 (s : St) (as : List AV) (K : AV → St → Prop) : WB ft 73 as s K = WV ft 73 (as.map (snap s.mem dep)) fun v => (as.all (fun a => !hot dep a) || plain dep v) = true ∧ K v s := WB_v ft73 rfl as s K
theorem WB74 (s : St) (as : List AV) (K : AV → St → Prop) : WB ft 74 as s K = WV ft 74 (as.map (snap s.mem dep)) fun v => (as.all (fun a => !hot dep a) || plain dep v) = true ∧ K v s := WB_v ft74 rfl as s K
theorem WB75 (s : St) (as : List AV) (K : AV → St → Prop) : WB ft 75 as s K = WV ft 75 (as.map (snap s.mem dep)) fun v => (as.all (fun a => !hot dep a) || plain dep v) = true ∧ K v s := WB_v ft75 rfl as s K
theorem WB76 (s : St) (as : List AV) (K : AV → St → Prop) : WB ft 76 as s K = WR ft (.f 76) as s.mem fun v m => K v (s.setMem m) := WB_r ft76 rfl as s K
theorem WB77 (s : St) (as : List AV) (K : AV → St → Prop) : WB ft 77 as s K = WV ft 77 (as.map (snap s.mem dep)) fun v => (as.all (fun a => !hot dep a) || plain dep v) = true ∧ K v s := WB_v ft77 rfl as s K
theorem WB78 (s : St) (as : List AV) (K : AV → St → Prop) : WB ft 78 as s K = WV ft 78 (as.map (snap s.mem dep)) fun v => (as.all (fun a => !hot dep a) || plain dep v) = true ∧ K v s := WB_v ft78 rfl as s K
theorem WB79 (s : St) (as : List AV) (K : AV → St → Prop) : WB ft 79 as s K = WV ft 79 (as.map (snap s.mem dep)) fun v => (as.all (fun a => !hot dep a) || plain dep v) = true ∧ K v s := WB_v ft79 rfl as s K
theorem WB80 (s : St) (as : List AV) (K : AV → St → Prop) : WB ft 80 as s K = WR ft (.f 80) as s.mem fun v m => K v (s.setMem m) := WB_r ft80 rfl as s K
theorem WB81 (s : St) (as : List AV) (K : AV → St → Prop) : WB ft 81 as s K = WV ft 81 (as.map (snap s.mem dep)) fun v => (as.all (fun a => !hot dep a) || plain dep v) = true ∧ K v s := WB_v ft81 rfl as s K
theorem WB82 (s : St) (as : List AV) (K : AV → St → Prop) : WB ft 82 as s K = WV ft 82 (as.map (snap s.mem dep)) fun v => (as.all (fun a => !hot dep a) || plain dep v) = true ∧ K v s := WB_v ft82 rfl as s K
theorem WB83 (s : St) (as : List AV) (K : AV → St → Prop) : WB ft 83 as s K = WV ft 83 (as.map (snap s.mem dep)) fun v => (as.all (fun a => !hot dep a) || plain dep v) = true ∧ K v s := WB_v ft83 rfl as s K
theorem WB84 (s : St) (as : List AV) (K : AV → St → Prop) : WB ft 84 as s K = WV ft 84 (as.map (snap s.mem dep)) fun v => (as.all (fun a => !hot dep a) || plain dep v) = true ∧ K v s := WB_v ft84 rfl as s K
theorem WB85 (s : St) (as : List AV) (K : AV → St → Prop) : WB ft 85 as s K = WV ft 85 (as.map (snap s.mem dep)) fun v => (as.all (fun a => !hot dep a) || plain dep v) = true ∧ K v s := WB_v ft85 rfl as s K
theorem WB86 (s : St) (as : List AV) (K : AV → St → Prop) : WB ft 86 as s K = WV ft 86 (as.map (snap s.mem dep)) fun v => (as.all (fun a => !hot dep a) || plain dep v) = true ∧ K v s := WB_v ft86 rfl as s K
theorem WB87 (s : St) (as : List AV) (K : AV → St → Prop) : WB ft 87 as s K = WV ft 87 (as.map (snap s.mem dep)) fun v => (as.all (fun a => !hot dep a) || plain dep v) = true ∧ K v s := WB_v ft87 rfl as s K
theorem WB88 (s : St) (as : List AV) (K : AV → St → Prop) : WB ft 88 as s K = WV ft 88 (as.map (snap s.mem dep)) fun v => (as.all (fun a => !hot dep a) || plain dep v) = true ∧ K v s := WB_v ft88 rfl as s K
theorem WB89 (s : St) (as : List AV) (K : AV → St → Prop) : WB ft 89 as s K = WV ft 89 (as.map (snap s.mem dep)) fun v => (as.all (fun a => !hot dep a) || plain dep v) = true ∧ K v s := WB_v ft89 rfl as s K
theorem WB90 (s : St) (as : List AV) (K : AV → St → Prop) : WB ft 90 as s K = WR ft (.f 90) as s.mem fun v m => K v (s.setMem m) := WB_r ft90 rfl as s K
theorem WB91 (s : St) (as : List AV) (K : AV → St → Prop) : WB ft 91 as s K = WR ft (.f 91) as s.mem fun v m => K v (s.setMem m) := WB_r ft91 rfl as s K
theorem WB92 (s : St) (as : List AV) (K : AV → St → Prop) : WB ft 92 as s K = WV ft 92 (as.map (snap s.mem dep)) fun v => (as.all (fun a => !hot dep a) || plain dep v) = true ∧ K v s := WB_v ft92 rfl as s K
theorem WB93 (s : St) (as : List AV) (K : AV → St → Prop) : WB ft 93 as s K = WV ft 93 (as.map (snap s.mem dep)) fun v => (as.all (fun a => !hot dep a) || plain dep v) = true ∧ K v s := WB_v ft93 rfl as s K
theorem WB94 (s : St) (as : List AV) (K : AV → St → Prop) : WB ft 94 as s K = WV ft 94 (as.map (snap s.mem dep)) fun v => (as.all (fun a => !hot dep a) || plain dep v) = true ∧ K v s := WB_v ft94 rfl as s K
theorem WB95 (s : St) (as : List AV) (K : AV → St → Prop) : WB ft 95 as s K = WV ft 95 (as.map (snap s.mem dep)) fun v => (as.all (fun a => !hot dep a) || plain dep v) = true ∧ K v s := WB_v ft95 rfl as s K
theorem WB96 (s : St) (as : List AV) (K : AV → St → Prop) : WB ft 96 as s K = WV ft 96 (as.map (snap s.mem dep)) fun v => (as.all (fun a => !hot dep a) || plain dep v) = true ∧ K v s := WB_v ft96 rfl as s K
theorem WB97 (s : St) (as : List AV) (K : AV → St → Prop) : WB ft 97 as s K = WR ft (.f 97) as s.mem fun v m => K v (s.setMem m) := WB_r ft97 rfl as s K
theorem WB98 (s : St) (as : List AV) (K : AV → St → Prop) : WB ft 98 as s K = WR ft (.f 98) as s.mem fun v m => K v (s.setMem m) := WB_r ft98 rfl as s K
theorem WB99 (s : St) (as : List AV) (K : AV → St → Prop) : WB ft 99 as s K = WR ft (.f 99) as s.mem fun v m => K v (s.setMem m) := WB_r ft99 rfl as s K
theorem WB100 (s : St) (as : List AV) (K : AV → St → Prop) : WB ft 100 as s K = WV ft 100 (as.map (snap s.mem dep)) fun v => (as.all (fun a => !hot dep a) || plain dep v) = true ∧ K v s := WB_v ft100 rfl as s K
theorem WB101 (s : St) (as : List AV) (K : AV → St → Prop) : WB ft 101 as s K = WV ft 101 (as.map (snap s.mem dep)) fun v => (as.all (fun a => !hot dep a) || plain dep v) = true ∧ K v s := WB_v ft101 rfl as s K
theorem WB102 (s : St) (as : List AV) (K : AV → St → Prop) : WB ft 102 as s K = WV ft 102 (as.map (snap s.mem dep)) fun v => (as.all (fun a => !hot dep a) || plain dep v) = true ∧ K v s := WB_v ft102 rfl as s K
theorem WB103 (s : St) (as : List AV) (K : AV → St → Prop) : WB ft 103 as s K = WV ft 103 (as.map (snap s.mem dep)) fun v => (as.all (fun a => !hot dep a) || plain dep v) = true ∧ K v s := WB_v ft103 rfl as s K
theorem WB104 (s : St) (as : List AV) (K : AV → St → Prop) : WB ft 104 as s K = WV ft 104 (as.map (snap s.mem dep)) fun v => (as.all (fun a => !hot dep a) || plain dep v) = true ∧ K v s := WB_v ft104 rfl as s K
theorem WB105 (s : St) (as : List AV) (K : AV → St → Prop) : WB ft 105 as s K = WV ft 105 (as.map (snap s.mem dep)) fun v => (as.all (fun a => !hot dep a) || plain dep v) = true ∧ K v s := WB_v ft105 rfl as s K
end Go.Ab.T
end
