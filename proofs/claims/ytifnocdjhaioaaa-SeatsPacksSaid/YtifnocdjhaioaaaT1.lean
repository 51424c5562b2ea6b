/-
  A part of the proofs over this seat.
  (The texts KhT KhW, one behind the other.)
-/
import Derived.Test.YtifnocdjhaioaaaA0
set_option linter.unusedSimpArgs false
set_option linter.unusedVariables false
set_option linter.unusedSectionVars false
section
namespace Go.Ab.T
def c2 : ACode := .region [Ob 0 (.call 1 [])]
def r2 : List Res := []
def a2 : AFn := ⟨0, c2, r2,.v⟩

def c3 : ACode := .seq (.region [Ob 3 (.box (.t 0) 2),Ob 5 (.box (.t 2) 3),Ob 6 (.mov (.c (.bool false)))])
 (.seq (.seq (.region [Ob 18 (.load (.t 3) (some 2)),Ob 19 (.mov (.t 1)),Ob 20 (.addr (.t 5) 0),Ob 21 (.load (.t 20) none),Ob 22 (.call 11 [(.t 18), (.t 19), (.t 21)]),Ob 23 (.not (.t 22)),Ob 24 (.mov (.t 23)),Og 25 24 false (.addr (.t 5) 1),Og 26 24 false (.load (.t 25) none),Og 27 24 false (.call 12 [(.t 26)]),Og 28 24 false (.not (.t 27)),Ob 29 (.pick (.t 24) (.c (.bool true)) (.t 28))])
 (.cond (.t 29) (.seq (.region [Ob 30 (.call 13 []),Ob 6 (.mov (.t 30))])
 (.ret))
 (.skip)))
 (.seq (.region [Ob 32 (.load (.t 3) (some 2)),Ob 33 (.mov (.t 1)),Ob 34 (.addr (.t 5) 0),Ob 35 (.load (.t 34) none),Ob 36 (.addr (.t 5) 1),Ob 37 (.load (.t 36) none),Ob 38 (.call 14 [(.t 32), (.t 33), (.t 35), (.t 37)]),Ob 31 (.mov (.t 38)),Ob 39 (.ext (.t 31) 0),Ob 40 (.ext (.t 31) 1),Ob 7 (.new (.agg [(.int .i64 0), (.int .i64 0), (.int .i64 0), (.int .i64 0)]) 4),On (.store (.t 7) (.t 39) 4),Ob 8 (.mov (.t 40))])
 (.seq (.region [Ob 42 (.load (.t 3) (some 2)),Ob 43 (.mov (.t 1)),Ob 44 (.addr (.t 5) 0),Ob 45 (.load (.t 44) none),Ob 46 (.call 15 [(.t 42), (.t 43), (.t 45)]),Ob 41 (.mov (.t 46)),Ob 47 (.ext (.t 41) 0),Ob 48 (.ext (.t 41) 1),Ob 9 (.mov (.t 47)),Ob 10 (.mov (.t 48))])
 (.seq (.seq (.region [Ob 49 (.mov (.t 8)),Ob 50 (.bin .neq (.t 49) (Ci 0)),Ob 51 (.mov (.t 50)),Og 52 51 false (.mov (.t 10)),Og 53 51 false (.bin .neq (.t 52) (Ci 0)),Ob 54 (.pick (.t 51) (.c (.bool true)) (.t 53)),Ob 55 (.mov (.t 54)),Og 56 55 false (.load (.t 3) (some 2)),Og 57 55 false (.mov (.t 9)),Og 58 55 false (.call 16 [(.t 56), (.t 57)]),Og 59 55 false (.not (.t 58)),Ob 60 (.pick (.t 55) (.c (.bool true)) (.t 59))])
 (.cond (.t 60) (.seq (.region [Ob 6 (.mov (.c (.bool false)))])
 (.ret))
 (.skip)))
 (.seq (.region [Ob 61 (.addr (.t 7) 0),Ob 62 (.load (.t 61) none),Ob 63 (.bin .eql (.t 62) (Ci 2)),Ob 64 (.mov (.t 63)),Og 65 64 false (.addr (.t 7) 0),Og 66 64 false (.load (.t 65) none),Og 67 64 false (.bin .eql (.t 66) (Ci 3)),Ob 68 (.pick (.t 64) (.c (.bool true)) (.t 67)),Ob 11 (.mov (.t 68))])
 (.seq (.seq (.region [Ob 69 (.mov (.t 11)),Ob 70 (.not (.t 69)),Ob 71 (.mov (.t 70)),Og 72 71 true (.addr (.t 7) 1),Og 73 71 true (.load (.t 72) none),Og 74 71 true (.bin .neq (.t 73) (Ci (-1))),Og 75 71 true (.mov (.t 74)),Og 76 75 false (.addr (.t 7) 2),Og 77 75 false (.load (.t 76) none),Og 78 75 false (.bin .neq (.t 77) (Ci (-1))),Og 79 71 true (.pick (.t 75) (.c (.bool true)) (.t 78)),Ob 80 (.pick (.t 71) (.t 79) (.c (.bool false)))])
 (.cond (.t 80) (.seq (.region [Ob 6 (.mov (.c (.bool false)))])
 (.ret))
 (.skip)))
 (.seq (.region [Ob 12 (.mov (Ci 0))])
 (.seq (.seq (.region [Ob 13 (.mov (Ci 0))])
 (.block 0 (.loop (.seq (.seq (.region [Ob 81 (.mov (.t 13)),Ob 82 (.mov (.t 9)),Ob 83 (.len (.t 82)),Ob 84 (.bin .lss (.t 81) (.t 83))])
 (.cond (.t 84) (.skip)
 (.exit 0)))
 (.seq (.block 1 (.seq (.region [Ob 14 (.mov (Ci 0))])
 (.block 2 (.loop (.seq (.seq (.region [Ob 87 (.mov (.t 14)),Ob 88 (.mov (.t 9)),Ob 89 (.mov (.t 13)),Ob 90 (.idx (.t 88) (.t 89) 1),Ob 91 (.load (.t 90) none),Ob 92 (.len (.t 91)),Ob 93 (.bin .lss (.t 87) (.t 92))])
 (.cond (.t 93) (.skip)
 (.exit 2)))
 (.seq (.block 3 (.seq (.region [Ob 96 (.mov (.t 9)),Ob 97 (.mov (.t 13)),Ob 98 (.idx (.t 96) (.t 97) 1),Ob 99 (.load (.t 98) none),Ob 100 (.mov (.t 14)),Ob 101 (.idx (.t 99) (.t 100) 1),Ob 102 (.load (.t 101) none),Ob 15 (.mov (.t 102))])
 (.seq (.seq (.region [Ob 103 (.mov (.t 15)),Ob 104 (.addr (.t 5) 1),Ob 105 (.load (.t 104) none),Ob 106 (.bin .eql (.t 103) (.t 105))])
 (.cond (.t 106) (.seq (.region [Ob 107 (.mov (.t 12)),Ob 108 (.bin .add (.t 107) (Ci 1)),Ob 12 (.mov (.t 108))])
 (.seq (.region [Ob 109 (.mov (.t 11)),Ob 110 (.not (.t 109)),Ob 111 (.mov (.t 110)),Og 112 111 false (.mov (.t 13)),Og 113 111 false (.addr (.t 7) 1),Og 114 111 false (.load (.t 113) none),Og 115 111 false (.bin .neq (.t 112) (.t 114)),Ob 116 (.pick (.t 111) (.c (.bool true)) (.t 115)),Ob 117 (.mov (.t 116)),Og 118 117 false (.mov (.t 14)),Og 119 117 false (.addr (.t 7) 2),Og 120 117 false (.load (.t 119) none),Og 121 117 false (.bin .lss (.t 118) (.t 120)),Ob 122 (.pick (.t 117) (.c (.bool true)) (.t 121)),Ob 123 (.mov (.t 122)),Og 124 123 false (.mov (.t 14)),Og 125 123 false (.addr (.t 7) 2),Og 126 123 false (.load (.t 125) none),Og 127 123 false (.addr (.t 7) 3),Og 128 123 false (.load (.t 127) none),Og 129 123 false (.bin .add (.t 126) (.t 128)),Og 130 123 false (.bin .geq (.t 124) (.t 129)),Ob 131 (.pick (.t 123) (.c (.bool true)) (.t 130))])
 (.cond (.t 131) (.seq (.region [Ob 6 (.mov (.c (.bool false)))])
 (.ret))
 (.skip))))
 (.skip)))
 (.seq (.seq (.region [Ob 132 (.mov (.t 15)),Ob 133 (.bin .eql (.t 132) (Ci (-1)))])
 (.cond (.t 133) (.exit 3)
 (.skip)))
 (.seq (.region [Ob 135 (.load (.t 3) (some 2)),Ob 136 (.mov (.t 1)),Ob 137 (.addr (.t 5) 0),Ob 138 (.load (.t 137) none),Ob 139 (.mov (.t 15)),Ob 140 (.call 14 [(.t 135), (.t 136), (.t 138), (.t 139)]),Ob 134 (.mov (.t 140)),Ob 141 (.ext (.t 134) 0),Ob 142 (.ext (.t 134) 1),Ob 16 (.new (.agg [(.int .i64 0), (.int .i64 0), (.int .i64 0), (.int .i64 0)]) 4),On (.store (.t 16) (.t 141) 4),Ob 17 (.mov (.t 142))])
 (.seq (.region [Ob 143 (.mov (.t 17)),Ob 144 (.bin .neq (.t 143) (Ci 0)),Ob 145 (.mov (.t 144)),Og 146 145 false (.addr (.t 16) 0),Og 147 145 false (.load (.t 146) none),Og 148 145 false (.bin .neq (.t 147) (Ci 2)),Og 149 145 false (.mov (.t 148)),Og 150 149 true (.addr (.t 16) 0),Og 151 149 true (.load (.t 150) none),Og 152 149 true (.bin .neq (.t 151) (Ci 3)),Og 153 145 false (.pick (.t 149) (.t 152) (.c (.bool false))),Ob 154 (.pick (.t 145) (.c (.bool true)) (.t 153)),Ob 155 (.mov (.t 154)),Og 156 155 false (.addr (.t 16) 1),Og 157 155 false (.load (.t 156) none),Og 158 155 false (.mov (.t 13)),Og 159 155 false (.bin .neq (.t 157) (.t 158)),Ob 160 (.pick (.t 155) (.c (.bool true)) (.t 159)),Ob 161 (.mov (.t 160)),Og 162 161 false (.mov (.t 14)),Og 163 161 false (.addr (.t 16) 2),Og 164 161 false (.load (.t 163) none),Og 165 161 false (.bin .lss (.t 162) (.t 164)),Ob 166 (.pick (.t 161) (.c (.bool true)) (.t 165)),Ob 167 (.mov (.t 166)),Og 168 167 false (.mov (.t 14)),Og 169 167 false (.addr (.t 16) 2),Og 170 167 false (.load (.t 169) none),Og 171 167 false (.addr (.t 16) 3),Og 172 167 false (.load (.t 171) none),Og 173 167 false (.bin .add (.t 170) (.t 172)),Og 174 167 false (.bin .geq (.t 168) (.t 173)),Ob 175 (.pick (.t 167) (.c (.bool true)) (.t 174))])
 (.cond (.t 175) (.seq (.region [Ob 6 (.mov (.c (.bool false)))])
 (.ret))
 (.skip))))))))
 (.region [Ob 94 (.mov (.t 14)),Ob 95 (.bin .add (.t 94) (Ci 1)),Ob 14 (.mov (.t 95))])))))))
 (.region [Ob 85 (.mov (.t 13)),Ob 86 (.bin .add (.t 85) (Ci 1)),Ob 13 (.mov (.t 86))]))))))
 (.seq (.region [Ob 176 (.mov (.t 11)),Ob 177 (.not (.t 176)),Ob 178 (.mov (.t 177)),Og 179 178 false (.mov (.t 12)),Og 180 178 false (.addr (.t 7) 3),Og 181 178 false (.load (.t 180) none),Og 182 178 false (.bin .eql (.t 179) (.t 181)),Ob 183 (.pick (.t 178) (.c (.bool true)) (.t 182)),Ob 184 (.mov (.t 183)),Og 185 184 true (.call 13 []),Ob 186 (.pick (.t 184) (.t 185) (.c (.bool false))),Ob 6 (.mov (.t 186))])
 (.ret))))))))))
def r3 : List Res := [.t 6]
def a3 : AFn := ⟨3, c3, r3,.v⟩

def c4 : ACode := .seq (.region [Ob 3 (.box (.t 0) 2),Ob 5 (.box (.t 2) 2),Ob 6 (.mov (.c (.bool false)))])
 (.seq (.seq (.region [Ob 23 (.load (.t 3) (some 2)),Ob 24 (.mov (.t 1)),Ob 25 (.addr (.t 5) 1),Ob 26 (.load (.t 25) none),Ob 27 (.call 11 [(.t 23), (.t 24), (.t 26)]),Ob 28 (.not (.t 27)),Ob 29 (.mov (.t 28)),Og 30 29 false (.mov (.t 1)),Og 31 29 false (.len (.t 30)),Og 32 29 false (.bin .gtr (.t 31) (Ci 20)),Ob 33 (.pick (.t 29) (.c (.bool true)) (.t 32)),Ob 34 (.mov (.t 33)),Og 35 34 false (.addr (.t 5) 0),Og 36 34 false (.load (.t 35) none),Og 37 34 false (.bin .lss (.t 36) (Ci 0)),Ob 38 (.pick (.t 34) (.c (.bool true)) (.t 37)),Ob 39 (.mov (.t 38)),Og 40 39 false (.addr (.t 5) 0),Og 41 39 false (.load (.t 40) none),Og 42 39 false (.bin .gtr (.t 41) (Ci 100)),Ob 43 (.pick (.t 39) (.c (.bool true)) (.t 42))])
 (.cond (.t 43) (.seq (.region [Ob 44 (.call 13 []),Ob 6 (.mov (.t 44))])
 (.ret))
 (.skip)))
 (.seq (.region [Ob 7 (.mov (.c (.sl [] .tight))),Ob 8 (.mov (.c (.sl [] .tight)))])
 (.seq (.seq (.region [Ob 9 (.mov (Ci 0))])
 (.block 0 (.loop (.seq (.seq (.region [Ob 45 (.mov (.t 9)),Ob 46 (.mov (.t 1)),Ob 47 (.len (.t 46)),Ob 48 (.bin .lss (.t 45) (.t 47))])
 (.cond (.t 48) (.skip)
 (.exit 0)))
 (.seq (.block 1 (.seq (.region [Ob 51 (.mov (.t 1)),Ob 52 (.mov (.t 9)),Ob 53 (.addr (.t 5) 0),Ob 54 (.load (.t 53) none),Ob 55 (.bin .add (.t 52) (.t 54)),Ob 56 (.mov (.t 1)),Ob 57 (.len (.t 56)),Ob 58 (.bin .rem (.t 55) (.t 57)),Ob 59 (.idx (.t 51) (.t 58) 5),Ob 60 (.load (.t 59) (some 5)),Ob 10 (.new (.agg [(.int .i64 0), (.int .i64 0), (.int .i64 0), (.int .i64 0), (.int .i64 0)]) 5),On (.store (.t 10) (.t 60) 5)])
 (.seq (.region [Ob 61 (.mov (.t 7)),Ob 62 (.load (.t 10) (some 5)),Ob 63 (.mov (.t 1)),Ob 64 (.mov (.t 9)),Ob 65 (.idx (.t 63) (.t 64) 5),Ob 66 (.load (.t 65) (some 5)),Ob 67 (.lit false 44 5 [(.t 62), (.t 66)]),Ob 68 (.app false (.t 61) (.t 67) 44 5 40),Ob 7 (.mov (.t 68))])
 (.seq (.region [Ob 69 (.addr (.t 10) 1),Ob 70 (.load (.t 69) none),Ob 71 (.addr (.t 5) 1),Ob 72 (.load (.t 71) none),Ob 73 (.bin .leq (.t 70) (.t 72))])
 (.cond (.t 73) (.region [Ob 74 (.mov (.t 8)),Ob 75 (.load (.t 10) (some 5)),Ob 76 (.lit false 44 5 [(.t 75)]),Ob 77 (.app false (.t 74) (.t 76) 44 5 40),Ob 8 (.mov (.t 77))])
 (.skip))))))
 (.region [Ob 49 (.mov (.t 9)),Ob 50 (.bin .add (.t 49) (Ci 1)),Ob 9 (.mov (.t 50))]))))))
 (.seq (.region [Ob 79 (.load (.t 3) (some 2)),Ob 80 (.mov (.t 1)),Ob 81 (.addr (.t 5) 1),Ob 82 (.load (.t 81) none),Ob 83 (.call 15 [(.t 79), (.t 80), (.t 82)]),Ob 78 (.mov (.t 83)),Ob 84 (.ext (.t 78) 0),Ob 85 (.ext (.t 78) 1),Ob 11 (.mov (.t 84)),Ob 12 (.mov (.t 85))])
 (.seq (.region [Ob 87 (.load (.t 3) (some 2)),Ob 88 (.mov (.t 7)),Ob 89 (.addr (.t 5) 1),Ob 90 (.load (.t 89) none),Ob 91 (.call 15 [(.t 87), (.t 88), (.t 90)]),Ob 86 (.mov (.t 91)),Ob 92 (.ext (.t 86) 0),Ob 93 (.ext (.t 86) 1),Ob 13 (.mov (.t 92)),Ob 14 (.mov (.t 93))])
 (.seq (.region [Ob 95 (.load (.t 3) (some 2)),Ob 96 (.mov (.t 8)),Ob 97 (.addr (.t 5) 1),Ob 98 (.load (.t 97) none),Ob 99 (.call 15 [(.t 95), (.t 96), (.t 98)]),Ob 94 (.mov (.t 99)),Ob 100 (.ext (.t 94) 0),Ob 101 (.ext (.t 94) 1),Ob 15 (.mov (.t 100)),Ob 16 (.mov (.t 101))])
 (.seq (.region [Ob 103 (.load (.t 3) (some 2)),Ob 104 (.mov (.t 1)),Ob 105 (.addr (.t 5) 1),Ob 106 (.load (.t 105) none),Ob 107 (.call 17 [(.t 103), (.t 104), (.t 106)]),Ob 102 (.mov (.t 107)),Ob 108 (.ext (.t 102) 0),Ob 109 (.ext (.t 102) 1),Ob 17 (.mov (.t 108)),Ob 18 (.mov (.t 109))])
 (.seq (.region [Ob 111 (.load (.t 3) (some 2)),Ob 112 (.mov (.t 7)),Ob 113 (.addr (.t 5) 1),Ob 114 (.load (.t 113) none),Ob 115 (.call 17 [(.t 111), (.t 112), (.t 114)]),Ob 110 (.mov (.t 115)),Ob 116 (.ext (.t 110) 0),Ob 117 (.ext (.t 110) 1),Ob 19 (.mov (.t 116)),Ob 20 (.mov (.t 117))])
 (.seq (.region [Ob 119 (.load (.t 3) (some 2)),Ob 120 (.mov (.t 8)),Ob 121 (.addr (.t 5) 1),Ob 122 (.load (.t 121) none),Ob 123 (.call 17 [(.t 119), (.t 120), (.t 122)]),Ob 118 (.mov (.t 123)),Ob 124 (.ext (.t 118) 0),Ob 125 (.ext (.t 118) 1),Ob 21 (.mov (.t 124)),Ob 22 (.mov (.t 125))])
 (.seq (.region [Ob 126 (.mov (.t 12)),Ob 127 (.bin .eql (.t 126) (Ci 0)),Ob 128 (.mov (.t 127)),Og 129 128 true (.mov (.t 14)),Og 130 128 true (.bin .eql (.t 129) (Ci 0)),Ob 131 (.pick (.t 128) (.t 130) (.c (.bool false))),Ob 132 (.mov (.t 131)),Og 133 132 true (.mov (.t 16)),Og 134 132 true (.bin .eql (.t 133) (Ci 0)),Ob 135 (.pick (.t 132) (.t 134) (.c (.bool false))),Ob 136 (.mov (.t 135)),Og 137 136 true (.mov (.t 11)),Og 138 136 true (.mov (.t 13)),Og 139 136 true (.call 18 [(.t 137), (.t 138)]),Ob 140 (.pick (.t 136) (.t 139) (.c (.bool false))),Ob 141 (.mov (.t 140)),Og 142 141 true (.mov (.t 11)),Og 143 141 true (.mov (.t 15)),Og 144 141 true (.call 18 [(.t 142), (.t 143)]),Ob 145 (.pick (.t 141) (.t 144) (.c (.bool false))),Ob 146 (.mov (.t 145)),Og 147 146 true (.mov (.t 18)),Og 148 146 true (.bin .eql (.t 147) (Ci 0)),Ob 149 (.pick (.t 146) (.t 148) (.c (.bool false))),Ob 150 (.mov (.t 149)),Og 151 150 true (.mov (.t 20)),Og 152 150 true (.bin .eql (.t 151) (Ci 0)),Ob 153 (.pick (.t 150) (.t 152) (.c (.bool false))),Ob 154 (.mov (.t 153)),Og 155 154 true (.mov (.t 22)),Og 156 154 true (.bin .eql (.t 155) (Ci 0)),Ob 157 (.pick (.t 154) (.t 156) (.c (.bool false))),Ob 158 (.mov (.t 157)),Og 159 158 true (.mov (.t 17)),Og 160 158 true (.mov (.t 19)),Og 161 158 true (.call 19 [(.t 159), (.t 160)]),Ob 162 (.pick (.t 158) (.t 161) (.c (.bool false))),Ob 163 (.mov (.t 162)),Og 164 163 true (.mov (.t 17)),Og 165 163 true (.mov (.t 21)),Og 166 163 true (.call 19 [(.t 164), (.t 165)]),Ob 167 (.pick (.t 163) (.t 166) (.c (.bool false))),Ob 168 (.mov (.t 167)),Og 169 168 true (.call 13 []),Ob 170 (.pick (.t 168) (.t 169) (.c (.bool false))),Ob 6 (.mov (.t 170))])
 (.ret)))))))))))
def r4 : List Res := [.t 6]
def a4 : AFn := ⟨3, c4, r4,.v⟩

def c5 : ACode := .seq (.region [Ob 3 (.box (.t 0) 2),Ob 5 (.box (.t 2) 3),Ob 6 (.mov (.c (.bool false)))])
 (.seq (.seq (.region [Ob 22 (.load (.t 3) (some 2)),Ob 23 (.mov (.t 1)),Ob 24 (.addr (.t 5) 0),Ob 25 (.load (.t 24) none),Ob 26 (.call 11 [(.t 22), (.t 23), (.t 25)]),Ob 27 (.not (.t 26)),Ob 28 (.mov (.t 27)),Og 29 28 false (.addr (.t 5) 2),Og 30 28 false (.load (.t 29) none),Og 31 28 false (.bin .lss (.t 30) (Ci 1)),Ob 32 (.pick (.t 28) (.c (.bool true)) (.t 31)),Ob 33 (.mov (.t 32)),Og 34 33 false (.addr (.t 5) 2),Og 35 33 false (.load (.t 34) none),Og 36 33 false (.bin .gtr (.t 35) (Ci 12)),Ob 37 (.pick (.t 33) (.c (.bool true)) (.t 36)),Ob 38 (.mov (.t 37)),Og 39 38 false (.mov (.t 1)),Og 40 38 false (.len (.t 39)),Og 41 38 false (.bin .geq (.t 40) (Ci 40)),Ob 42 (.pick (.t 38) (.c (.bool true)) (.t 41))])
 (.cond (.t 42) (.seq (.region [Ob 43 (.call 13 []),Ob 6 (.mov (.t 43))])
 (.ret))
 (.skip)))
 (.seq (.region [Ob 7 (.mov (Ci (-1)))])
 (.seq (.seq (.region [Ob 8 (.mov (Ci 0))])
 (.block 0 (.loop (.seq (.seq (.region [Ob 44 (.mov (.t 8)),Ob 45 (.mov (.t 1)),Ob 46 (.len (.t 45)),Ob 47 (.bin .lss (.t 44) (.t 46))])
 (.cond (.t 47) (.skip)
 (.exit 0)))
 (.seq (.block 1 (.seq (.seq (.region [Ob 50 (.mov (.t 1)),Ob 51 (.mov (.t 8)),Ob 52 (.idx (.t 50) (.t 51) 5),Ob 53 (.addr (.t 52) 1),Ob 54 (.load (.t 53) none),Ob 55 (.addr (.t 5) 0),Ob 56 (.load (.t 55) none),Ob 57 (.bin .gtr (.t 54) (.t 56)),Ob 58 (.mov (.t 57)),Og 59 58 false (.mov (.t 1)),Og 60 58 false (.mov (.t 8)),Og 61 58 false (.idx (.t 59) (.t 60) 5),Og 62 58 false (.addr (.t 61) 3),Og 63 58 false (.load (.t 62) none),Og 64 58 false (.bin .eql (.t 63) (Ci 99)),Ob 65 (.pick (.t 58) (.c (.bool true)) (.t 64))])
 (.cond (.t 65) (.seq (.region [Ob 66 (.call 13 []),Ob 6 (.mov (.t 66))])
 (.ret))
 (.skip)))
 (.region [Ob 67 (.mov (.t 7)),Ob 68 (.mov (.t 1)),Ob 69 (.mov (.t 8)),Ob 70 (.idx (.t 68) (.t 69) 5),Ob 71 (.addr (.t 70) 0),Ob 72 (.load (.t 71) none),Ob 73 (.mnx true (.t 67) (.t 72)),Ob 7 (.mov (.t 73))])))
 (.region [Ob 48 (.mov (.t 8)),Ob 49 (.bin .add (.t 48) (Ci 1)),Ob 8 (.mov (.t 49))]))))))
 (.seq (.region [Ob 75 (.load (.t 3) (some 2)),Ob 76 (.mov (.t 1)),Ob 77 (.addr (.t 5) 0),Ob 78 (.load (.t 77) none),Ob 79 (.call 15 [(.t 75), (.t 76), (.t 78)]),Ob 74 (.mov (.t 79)),Ob 80 (.ext (.t 74) 0),Ob 81 (.ext (.t 74) 1),Ob 9 (.mov (.t 80)),Ob 10 (.mov (.t 81))])
 (.seq (.region [Ob 83 (.load (.t 3) (some 2)),Ob 84 (.mov (.t 1)),Ob 85 (.addr (.t 5) 0),Ob 86 (.load (.t 85) none),Ob 87 (.addr (.t 5) 2),Ob 88 (.load (.t 87) none),Ob 89 (.call 20 [(.t 83), (.t 84), (.t 86), (.t 88)]),Ob 82 (.mov (.t 89)),Ob 90 (.ext (.t 82) 0),Ob 91 (.ext (.t 82) 1),Ob 92 (.ext (.t 82) 2),Ob 11 (.mov (.t 90)),Ob 12 (.mov (.t 91)),Ob 13 (.mov (.t 92))])
 (.seq (.seq (.region [Ob 93 (.mov (.t 10)),Ob 94 (.bin .neq (.t 93) (Ci 0)),Ob 95 (.mov (.t 94)),Og 96 95 false (.load (.t 3) (some 2)),Og 97 95 false (.mov (.t 9)),Og 98 95 false (.call 16 [(.t 96), (.t 97)]),Og 99 95 false (.not (.t 98)),Ob 100 (.pick (.t 95) (.c (.bool true)) (.t 99)),Ob 101 (.mov (.t 100)),Og 102 101 false (.mov (.t 13)),Og 103 101 false (.bin .neq (.t 102) (Ci 0)),Og 104 101 false (.mov (.t 103)),Og 105 104 true (.mov (.t 13)),Og 106 104 true (.bin .neq (.t 105) (Ci 3)),Og 107 101 false (.pick (.t 104) (.t 106) (.c (.bool false))),Ob 108 (.pick (.t 101) (.c (.bool true)) (.t 107))])
 (.cond (.t 108) (.seq (.region [Ob 6 (.mov (.c (.bool false)))])
 (.ret))
 (.skip)))
 (.seq (.region [Ob 14 (.mov (Ci 0)),Ob 15 (.mov (Ci 0))])
 (.seq (.seq (.region [Ob 16 (.mov (Ci 0))])
 (.block 2 (.loop (.seq (.seq (.region [Ob 109 (.mov (.t 16)),Ob 110 (.mov (.t 9)),Ob 111 (.len (.t 110)),Ob 112 (.bin .lss (.t 109) (.t 111))])
 (.cond (.t 112) (.skip)
 (.exit 2)))
 (.seq (.block 3 (.seq (.region [Ob 17 (.mov (Ci 0))])
 (.block 4 (.loop (.seq (.seq (.region [Ob 115 (.mov (.t 17)),Ob 116 (.mov (.t 9)),Ob 117 (.mov (.t 16)),Ob 118 (.idx (.t 116) (.t 117) 1),Ob 119 (.load (.t 118) none),Ob 120 (.len (.t 119)),Ob 121 (.bin .lss (.t 115) (.t 120))])
 (.cond (.t 121) (.skip)
 (.exit 4)))
 (.seq (.block 5 (.seq (.region [Ob 124 (.mov (.t 9)),Ob 125 (.mov (.t 16)),Ob 126 (.idx (.t 124) (.t 125) 1),Ob 127 (.load (.t 126) none),Ob 128 (.mov (.t 17)),Ob 129 (.addr (.t 5) 2),Ob 130 (.load (.t 129) none),Ob 131 (.call 21 [(.t 127), (.t 128), (.t 130)])])
 (.cond (.t 131) (.seq (.region [Ob 132 (.mov (.t 14)),Ob 133 (.bin .add (.t 132) (Ci 1)),Ob 14 (.mov (.t 133))])
 (.seq (.region [Ob 134 (.mov (.t 9)),Ob 135 (.mov (.t 16)),Ob 136 (.idx (.t 134) (.t 135) 1),Ob 137 (.load (.t 136) none),Ob 138 (.mov (.t 17)),Ob 139 (.addr (.t 5) 2),Ob 140 (.load (.t 139) none),Ob 141 (.call 22 [(.t 137), (.t 138), (.t 140)]),Ob 142 (.not (.t 141))])
 (.cond (.t 142) (.region [Ob 143 (.mov (.t 15)),Ob 144 (.bin .add (.t 143) (Ci 1)),Ob 15 (.mov (.t 144))])
 (.skip))))
 (.skip))))
 (.region [Ob 122 (.mov (.t 17)),Ob 123 (.bin .add (.t 122) (Ci 1)),Ob 17 (.mov (.t 123))])))))))
 (.region [Ob 113 (.mov (.t 16)),Ob 114 (.bin .add (.t 113) (Ci 1)),Ob 16 (.mov (.t 114))]))))))
 (.seq (.seq (.region [Ob 145 (.mov (.t 13)),Ob 146 (.bin .eql (.t 145) (Ci 0)),Ob 147 (.mov (.t 14)),Ob 148 (.bin .gtr (.t 147) (Ci 0)),Ob 149 (.eqv true false [.b] (.t 146) (.t 148))])
 (.cond (.t 149) (.seq (.region [Ob 6 (.mov (.c (.bool false)))])
 (.ret))
 (.skip)))
 (.seq (.seq (.region [Ob 150 (.mov (.t 13)),Ob 151 (.bin .eql (.t 150) (Ci 0))])
 (.cond (.t 151) (.seq (.region [Ob 152 (.mov (.t 11)),Ob 153 (.bin .lss (.t 152) (Ci 0)),Ob 154 (.mov (.t 153)),Og 155 154 false (.mov (.t 11)),Og 156 154 false (.mov (.t 9)),Og 157 154 false (.len (.t 156)),Og 158 154 false (.bin .geq (.t 155) (.t 157)),Ob 159 (.pick (.t 154) (.c (.bool true)) (.t 158)),Ob 160 (.mov (.t 159)),Og 161 160 false (.mov (.t 12)),Og 162 160 false (.bin .lss (.t 161) (Ci 0)),Ob 163 (.pick (.t 160) (.c (.bool true)) (.t 162)),Ob 164 (.mov (.t 163)),Og 165 164 false (.mov (.t 9)),Og 166 164 false (.mov (.t 11)),Og 167 164 false (.idx (.t 165) (.t 166) 1),Og 168 164 false (.load (.t 167) none),Og 169 164 false (.mov (.t 12)),Og 170 164 false (.addr (.t 5) 2),Og 171 164 false (.load (.t 170) none),Og 172 164 false (.call 21 [(.t 168), (.t 169), (.t 171)]),Og 173 164 false (.not (.t 172)),Ob 174 (.pick (.t 164) (.c (.bool true)) (.t 173)),Ob 175 (.mov (.t 174)),Og 176 175 false (.mov (.t 9)),Og 177 175 false (.mov (.t 11)),Og 178 175 false (.idx (.t 176) (.t 177) 1),Og 179 175 false (.load (.t 178) none),Og 180 175 false (.mov (.t 12)),Og 181 175 false (.addr (.t 5) 2),Og 182 175 false (.load (.t 181) none),Og 183 175 false (.call 22 [(.t 179), (.t 180), (.t 182)]),Og 184 175 false (.mov (.t 183)),Og 185 184 true (.mov (.t 15)),Og 186 184 true (.bin .gtr (.t 185) (Ci 0)),Og 187 175 false (.pick (.t 184) (.t 186) (.c (.bool false))),Ob 188 (.pick (.t 175) (.c (.bool true)) (.t 187))])
 (.cond (.t 188) (.seq (.region [Ob 6 (.mov (.c (.bool false)))])
 (.ret))
 (.skip)))
 (.skip)))
 (.seq (.seq (.region [Ob 189 (.mov (.t 7)),Ob 190 (.bin .geq (.t 189) (Ci 99))])
 (.cond (.t 190) (.seq (.region [Ob 191 (.call 13 []),Ob 6 (.mov (.t 191))])
 (.ret))
 (.skip)))
 (.seq (.regionD [Ob 192 (.lit false 44 5 []),Ob 193 (.mov (.t 1)),Ob 195 (.mov (.t 7)),Ob 196 (.bin .add (.t 195) (Ci 1)),Ob 197 (.addr (.t 5) 0),Ob 198 (.load (.t 197) none),Ob 199 (.addr (.t 5) 2),Ob 200 (.load (.t 199) none),Ob 201 (.build [(.int .i64 0), (.int .i64 0), (.int .i64 0), (.int .i64 0), (.int .i64 0)] [(0, 1, (.t 196)), (1, 1, (.t 198)), (2, 1, (Ci 1)), (3, 1, (Ci 99)), (4, 1, (.t 200))]),Ob 202 (.lit false 44 5 [(.t 201)]),Ob 194 (.app false (.t 192) (.t 193) 44 5 40),Ob 203 (.app false (.t 194) (.t 202) 44 5 40),Ob 18 (.mov (.t 203))] [(5, 192), (197, 192), (5, 192), (199, 192)])
 (.seq (.region [Ob 205 (.load (.t 3) (some 2)),Ob 206 (.mov (.t 18)),Ob 207 (.addr (.t 5) 0),Ob 208 (.load (.t 207) none),Ob 209 (.call 14 [(.t 205), (.t 206), (.t 208), (Ci 99)]),Ob 204 (.mov (.t 209)),Ob 210 (.ext (.t 204) 0),Ob 211 (.ext (.t 204) 1),Ob 19 (.new (.agg [(.int .i64 0), (.int .i64 0), (.int .i64 0), (.int .i64 0)]) 4),On (.store (.t 19) (.t 210) 4),Ob 20 (.mov (.t 211))])
 (.seq (.region [Ob 212 (.addr (.t 5) 2),Ob 213 (.load (.t 212) none),Ob 214 (.build [(.int .i64 0), (.int .i64 0), (.int .i64 0), (.int .i64 0)] [(0, 1, (Ci 1)), (1, 1, (Ci (-1))), (2, 1, (Ci (-1))), (3, 1, (.t 213))]),Ob 21 (.new (.agg [(.int .i64 0), (.int .i64 0), (.int .i64 0), (.int .i64 0)]) 4),On (.store (.t 21) (.t 214) 4)])
 (.seq (.seq (.region [Ob 215 (.mov (.t 13)),Ob 216 (.bin .eql (.t 215) (Ci 0))])
 (.cond (.t 216) (.region [Ob 217 (.mov (.t 11)),Ob 218 (.mov (.t 12)),Ob 219 (.addr (.t 5) 2),Ob 220 (.load (.t 219) none),Ob 221 (.build [(.int .i64 0), (.int .i64 0), (.int .i64 0), (.int .i64 0)] [(0, 1, (Ci 2)), (1, 1, (.t 217)), (2, 1, (.t 218)), (3, 1, (.t 220))]),On (.store (.t 21) (.t 221) 4)])
 (.skip)))
 (.seq (.region [Ob 222 (.mov (.t 20)),Ob 223 (.bin .eql (.t 222) (Ci 0)),Ob 224 (.mov (.t 223)),Og 225 224 true (.load (.t 19) (some 4)),Og 226 224 true (.load (.t 21) (some 4)),Og 227 224 true (.eqv false true [.i,.i,.i,.i] (.t 225) (.t 226)),Ob 228 (.pick (.t 224) (.t 227) (.c (.bool false))),Ob 229 (.mov (.t 228)),Og 230 229 true (.call 13 []),Ob 231 (.pick (.t 229) (.t 230) (.c (.bool false))),Ob 6 (.mov (.t 231))])
 (.ret)))))))))))))))))
def r5 : List Res := [.t 6]
def a5 : AFn := ⟨3, c5, r5,.v⟩

def c6 : ACode := .seq (.region [Ob 3 (.box (.t 0) 2),Ob 5 (.box (.t 2) 3),Ob 6 (.mov (.c (.bool false)))])
 (.seq (.region [Ob 12 (.addr (.t 5) 2),Ob 13 (.load (.t 12) none),Ob 7 (.mov (.t 13))])
 (.seq (.seq (.region [Ob 14 (.load (.t 3) (some 2)),Ob 15 (.mov (.t 1)),Ob 16 (.addr (.t 5) 0),Ob 17 (.load (.t 16) none),Ob 18 (.call 11 [(.t 14), (.t 15), (.t 17)]),Ob 19 (.not (.t 18)),Ob 20 (.mov (.t 19)),Og 21 20 false (.addr (.t 5) 1),Og 22 20 false (.load (.t 21) none),Og 23 20 false (.call 12 [(.t 22)]),Og 24 20 false (.not (.t 23)),Ob 25 (.pick (.t 20) (.c (.bool true)) (.t 24)),Ob 26 (.mov (.t 25)),Og 27 26 false (.mov (.t 7)),Og 28 26 false (.addr (.t 5) 0),Og 29 26 false (.load (.t 28) none),Og 30 26 false (.bin .lss (.t 27) (.t 29)),Ob 31 (.pick (.t 26) (.c (.bool true)) (.t 30)),Ob 32 (.mov (.t 31)),Og 33 32 false (.mov (.t 7)),Og 34 32 false (.bin .gtr (.t 33) (Ci 9999)),Ob 35 (.pick (.t 32) (.c (.bool true)) (.t 34))])
 (.cond (.t 35) (.seq (.region [Ob 36 (.call 13 []),Ob 6 (.mov (.t 36))])
 (.ret))
 (.skip)))
 (.seq (.region [Ob 38 (.load (.t 3) (some 2)),Ob 39 (.mov (.t 1)),Ob 40 (.addr (.t 5) 0),Ob 41 (.load (.t 40) none),Ob 42 (.addr (.t 5) 1),Ob 43 (.load (.t 42) none),Ob 44 (.call 14 [(.t 38), (.t 39), (.t 41), (.t 43)]),Ob 37 (.mov (.t 44)),Ob 45 (.ext (.t 37) 0),Ob 46 (.ext (.t 37) 1),Ob 8 (.new (.agg [(.int .i64 0), (.int .i64 0), (.int .i64 0), (.int .i64 0)]) 4),On (.store (.t 8) (.t 45) 4),Ob 9 (.mov (.t 46))])
 (.seq (.region [Ob 48 (.load (.t 3) (some 2)),Ob 49 (.mov (.t 1)),Ob 50 (.mov (.t 7)),Ob 51 (.addr (.t 5) 1),Ob 52 (.load (.t 51) none),Ob 53 (.call 14 [(.t 48), (.t 49), (.t 50), (.t 52)]),Ob 47 (.mov (.t 53)),Ob 54 (.ext (.t 47) 0),Ob 55 (.ext (.t 47) 1),Ob 10 (.new (.agg [(.int .i64 0), (.int .i64 0), (.int .i64 0), (.int .i64 0)]) 4),On (.store (.t 10) (.t 54) 4),Ob 11 (.mov (.t 55))])
 (.seq (.seq (.region [Ob 56 (.mov (.t 9)),Ob 57 (.bin .neq (.t 56) (Ci 0)),Ob 58 (.mov (.t 57)),Og 59 58 false (.mov (.t 11)),Og 60 58 false (.bin .neq (.t 59) (Ci 0)),Ob 61 (.pick (.t 58) (.c (.bool true)) (.t 60))])
 (.cond (.t 61) (.seq (.region [Ob 6 (.mov (.c (.bool false)))])
 (.ret))
 (.skip)))
 (.seq (.seq (.region [Ob 62 (.addr (.t 8) 0),Ob 63 (.load (.t 62) none)])
 (.block 0 (.seq (.region [Ob 65 (.bin .eql (.t 63) (Ci 2)),Ob 64 (.mov (.t 65))])
 (.cond (.t 64) (.seq (.region [Ob 66 (.mov (.t 7)),Ob 67 (.addr (.t 5) 0),Ob 68 (.load (.t 67) none),Ob 69 (.addr (.t 3) 1),Ob 70 (.load (.t 69) none),Ob 71 (.bin .add (.t 68) (.t 70)),Ob 72 (.bin .lss (.t 66) (.t 71)),Ob 73 (.mov (.t 72)),Og 74 73 false (.addr (.t 10) 0),Og 75 73 false (.load (.t 74) none),Og 76 73 false (.bin .neq (.t 75) (Ci 2)),Ob 77 (.pick (.t 73) (.c (.bool true)) (.t 76)),Ob 78 (.mov (.t 77)),Og 79 78 true (.addr (.t 10) 0),Og 80 78 true (.load (.t 79) none),Og 81 78 true (.bin .neq (.t 80) (Ci 0)),Ob 82 (.pick (.t 78) (.t 81) (.c (.bool false))),Ob 83 (.mov (.t 82)),Og 84 83 true (.addr (.t 10) 0),Og 85 83 true (.load (.t 84) none),Og 86 83 true (.bin .neq (.t 85) (Ci 1)),Ob 87 (.pick (.t 83) (.t 86) (.c (.bool false))),Ob 88 (.mov (.t 87)),Og 89 88 true (.addr (.t 10) 3),Og 90 88 true (.load (.t 89) none),Og 91 88 true (.addr (.t 8) 3),Og 92 88 true (.load (.t 91) none),Og 93 88 true (.bin .eql (.t 90) (.t 92)),Ob 94 (.pick (.t 88) (.t 93) (.c (.bool false))),Ob 95 (.mov (.t 94)),Og 96 95 true (.call 13 []),Ob 97 (.pick (.t 95) (.t 96) (.c (.bool false))),Ob 6 (.mov (.t 97))])
 (.ret))
 (.seq (.region [Ob 99 (.bin .eql (.t 63) (Ci 3)),Ob 98 (.mov (.t 99))])
 (.cond (.t 98) (.seq (.region [Ob 100 (.load (.t 10) (some 4)),Ob 101 (.load (.t 8) (some 4)),Ob 102 (.eqv false true [.i,.i,.i,.i] (.t 100) (.t 101)),Ob 103 (.mov (.t 102)),Og 104 103 false (.load (.t 10) (some 4)),Og 105 103 false (.addr (.t 8) 3),Og 106 103 false (.load (.t 105) none),Og 107 103 false (.build [(.int .i64 0), (.int .i64 0), (.int .i64 0), (.int .i64 0)] [(0, 1, (Ci 5)), (1, 1, (Ci (-1))), (2, 1, (Ci (-1))), (3, 1, (.t 106))]),Og 108 103 false (.eqv false true [.i,.i,.i,.i] (.t 104) (.t 107)),Ob 109 (.pick (.t 103) (.c (.bool true)) (.t 108)),Ob 110 (.mov (.t 109)),Og 111 110 true (.call 13 []),Ob 112 (.pick (.t 110) (.t 111) (.c (.bool false))),Ob 6 (.mov (.t 112))])
 (.ret))
 (.seq (.seq (.region [Ob 114 (.bin .eql (.t 63) (Ci 1)),Ob 113 (.mov (.t 114))])
 (.cond (.t 113) (.skip)
 (.seq (.region [Ob 115 (.bin .eql (.t 63) (Ci 4)),Ob 113 (.mov (.t 115))])
 (.cond (.t 113) (.skip)
 (.region [Ob 116 (.bin .eql (.t 63) (Ci 5)),Ob 113 (.mov (.t 116))])))))
 (.cond (.t 113) (.seq (.region [Ob 117 (.load (.t 10) (some 4)),Ob 118 (.load (.t 8) (some 4)),Ob 119 (.eqv false true [.i,.i,.i,.i] (.t 117) (.t 118)),Ob 120 (.mov (.t 119)),Og 121 120 true (.call 13 []),Ob 122 (.pick (.t 120) (.t 121) (.c (.bool false))),Ob 6 (.mov (.t 122))])
 (.ret))
 (.skip)))))))))
 (.seq (.region [Ob 123 (.load (.t 8) (some 4)),Ob 124 (.build [(.int .i64 0), (.int .i64 0), (.int .i64 0), (.int .i64 0)] [(1, 1, (Ci (-1))), (2, 1, (Ci (-1)))]),Ob 125 (.eqv false true [.i,.i,.i,.i] (.t 123) (.t 124)),Ob 126 (.mov (.t 125)),Og 127 126 true (.call 13 []),Ob 128 (.pick (.t 126) (.t 127) (.c (.bool false))),Ob 6 (.mov (.t 128))])
 (.ret))))))))
def r6 : List Res := [.t 6]
def a6 : AFn := ⟨3, c6, r6,.v⟩

def c7 : ACode := .seq (.region [Ob 3 (.box (.t 0) 2),Ob 5 (.box (.t 2) 3),Ob 6 (.mov (.c (.bool false)))])
 (.seq (.seq (.region [Ob 23 (.load (.t 3) (some 2)),Ob 24 (.mov (.t 1)),Ob 25 (.addr (.t 5) 0),Ob 26 (.load (.t 25) none),Ob 27 (.call 11 [(.t 23), (.t 24), (.t 26)]),Ob 28 (.not (.t 27)),Ob 29 (.mov (.t 28)),Og 30 29 false (.addr (.t 5) 2),Og 31 29 false (.load (.t 30) none),Og 32 29 false (.bin .lss (.t 31) (Ci 1)),Ob 33 (.pick (.t 29) (.c (.bool true)) (.t 32)),Ob 34 (.mov (.t 33)),Og 35 34 false (.addr (.t 5) 2),Og 36 34 false (.load (.t 35) none),Og 37 34 false (.bin .gtr (.t 36) (Ci 12)),Ob 38 (.pick (.t 34) (.c (.bool true)) (.t 37)),Ob 39 (.mov (.t 38)),Og 40 39 false (.mov (.t 1)),Og 41 39 false (.len (.t 40)),Og 42 39 false (.bin .gtr (.t 41) (Ci 10)),Ob 43 (.pick (.t 39) (.c (.bool true)) (.t 42))])
 (.cond (.t 43) (.seq (.region [Ob 44 (.call 13 []),Ob 6 (.mov (.t 44))])
 (.ret))
 (.skip)))
 (.seq (.seq (.region [Ob 7 (.mov (Ci 0))])
 (.block 0 (.loop (.seq (.seq (.region [Ob 45 (.mov (.t 7)),Ob 46 (.mov (.t 1)),Ob 47 (.len (.t 46)),Ob 48 (.bin .lss (.t 45) (.t 47))])
 (.cond (.t 48) (.skip)
 (.exit 0)))
 (.seq (.block 1 (.seq (.region [Ob 51 (.mov (.t 1)),Ob 52 (.mov (.t 7)),Ob 53 (.idx (.t 51) (.t 52) 5),Ob 54 (.addr (.t 53) 1),Ob 55 (.load (.t 54) none),Ob 56 (.addr (.t 5) 0),Ob 57 (.load (.t 56) none),Ob 58 (.bin .gtr (.t 55) (.t 57)),Ob 59 (.mov (.t 58)),Og 60 59 false (.mov (.t 1)),Og 61 59 false (.mov (.t 7)),Og 62 59 false (.idx (.t 60) (.t 61) 5),Og 63 59 false (.addr (.t 62) 3),Og 64 59 false (.load (.t 63) none),Og 65 59 false (.bin .geq (.t 64) (Ci 40)),Ob 66 (.pick (.t 59) (.c (.bool true)) (.t 65)),Ob 67 (.mov (.t 66)),Og 68 67 false (.mov (.t 1)),Og 69 67 false (.mov (.t 7)),Og 70 67 false (.idx (.t 68) (.t 69) 5),Og 71 67 false (.addr (.t 70) 0),Og 72 67 false (.load (.t 71) none),Og 73 67 false (.bin .geq (.t 72) (Ci 40)),Ob 74 (.pick (.t 67) (.c (.bool true)) (.t 73))])
 (.cond (.t 74) (.seq (.region [Ob 75 (.call 13 []),Ob 6 (.mov (.t 75))])
 (.ret))
 (.skip))))
 (.region [Ob 49 (.mov (.t 7)),Ob 50 (.bin .add (.t 49) (Ci 1)),Ob 7 (.mov (.t 50))]))))))
 (.seq (.region [Ob 77 (.load (.t 3) (some 2)),Ob 78 (.mov (.t 1)),Ob 79 (.addr (.t 5) 0),Ob 80 (.load (.t 79) none),Ob 81 (.call 23 [(.t 77), (.t 78), (.t 80)]),Ob 76 (.mov (.t 81)),Ob 82 (.ext (.t 76) 0),Ob 83 (.ext (.t 76) 1),Ob 8 (.mov (.t 82)),Ob 9 (.mov (.t 83))])
 (.seq (.region [Ob 85 (.load (.t 3) (some 2)),Ob 86 (.mov (.t 1)),Ob 87 (.addr (.t 5) 0),Ob 88 (.load (.t 87) none),Ob 89 (.addr (.t 5) 2),Ob 90 (.load (.t 89) none),Ob 91 (.call 24 [(.t 85), (.t 86), (.t 88), (.t 90)]),Ob 84 (.mov (.t 91)),Ob 92 (.ext (.t 84) 0),Ob 93 (.ext (.t 84) 1),Ob 10 (.mov (.t 92)),Ob 11 (.mov (.t 93))])
 (.seq (.seq (.region [Ob 94 (.mov (.t 9)),Ob 95 (.bin .neq (.t 94) (Ci 0)),Ob 96 (.mov (.t 95)),Og 97 96 false (.mov (.t 11)),Og 98 96 false (.bin .neq (.t 97) (Ci 0)),Ob 99 (.pick (.t 96) (.c (.bool true)) (.t 98)),Ob 100 (.mov (.t 99)),Og 101 100 false (.mov (.t 8)),Og 102 100 false (.bin .lss (.t 101) (Ci 0)),Ob 103 (.pick (.t 100) (.c (.bool true)) (.t 102)),Ob 104 (.mov (.t 103)),Og 105 104 false (.mov (.t 8)),Og 106 104 false (.bin .gtr (.t 105) (Ci 12)),Ob 107 (.pick (.t 104) (.c (.bool true)) (.t 106)),Ob 108 (.mov (.t 107)),Og 109 108 false (.mov (.t 10)),Og 110 108 false (.bin .lss (.t 109) (Ci 0)),Ob 111 (.pick (.t 108) (.c (.bool true)) (.t 110)),Ob 112 (.mov (.t 111)),Og 113 112 false (.mov (.t 10)),Og 114 112 false (.bin .gtr (.t 113) (Ci 0)),Og 115 112 false (.addr (.t 5) 2),Og 116 112 false (.load (.t 115) none),Og 117 112 false (.mov (.t 8)),Og 118 112 false (.bin .leq (.t 116) (.t 117)),Og 119 112 false (.eqv true false [.b] (.t 114) (.t 118)),Ob 120 (.pick (.t 112) (.c (.bool true)) (.t 119))])
 (.cond (.t 120) (.seq (.region [Ob 6 (.mov (.c (.bool false)))])
 (.ret))
 (.skip)))
 (.seq (.seq (.region [Ob 121 (.mov (.t 8)),Ob 122 (.bin .gtr (.t 121) (Ci 0))])
 (.cond (.t 122) (.seq (.region [Ob 124 (.load (.t 3) (some 2)),Ob 125 (.mov (.t 1)),Ob 126 (.addr (.t 5) 0),Ob 127 (.load (.t 126) none),Ob 128 (.mov (.t 8)),Ob 129 (.call 20 [(.t 124), (.t 125), (.t 127), (.t 128)]),Ob 123 (.mov (.t 129)),Ob 130 (.ext (.t 123) 0),Ob 131 (.ext (.t 123) 1),Ob 132 (.ext (.t 123) 2),Ob 12 (.mov (.t 130)),Ob 13 (.mov (.t 131)),Ob 14 (.mov (.t 132))])
 (.seq (.region [Ob 133 (.mov (.t 14)),Ob 134 (.bin .neq (.t 133) (Ci 0))])
 (.cond (.t 134) (.seq (.region [Ob 6 (.mov (.c (.bool false)))])
 (.ret))
 (.skip))))
 (.skip)))
 (.seq (.seq (.region [Ob 135 (.mov (.t 8)),Ob 136 (.bin .lss (.t 135) (Ci 12))])
 (.cond (.t 136) (.seq (.region [Ob 138 (.load (.t 3) (some 2)),Ob 139 (.mov (.t 1)),Ob 140 (.addr (.t 5) 0),Ob 141 (.load (.t 140) none),Ob 142 (.mov (.t 8)),Ob 143 (.bin .add (.t 142) (Ci 1)),Ob 144 (.call 20 [(.t 138), (.t 139), (.t 141), (.t 143)]),Ob 137 (.mov (.t 144)),Ob 145 (.ext (.t 137) 0),Ob 146 (.ext (.t 137) 1),Ob 147 (.ext (.t 137) 2),Ob 15 (.mov (.t 145)),Ob 16 (.mov (.t 146)),Ob 17 (.mov (.t 147))])
 (.seq (.region [Ob 148 (.mov (.t 17)),Ob 149 (.bin .neq (.t 148) (Ci 3))])
 (.cond (.t 149) (.seq (.region [Ob 6 (.mov (.c (.bool false)))])
 (.ret))
 (.skip))))
 (.skip)))
 (.seq (.seq (.region [Ob 150 (.mov (.t 10)),Ob 151 (.bin .gtr (.t 150) (Ci 28))])
 (.cond (.t 151) (.seq (.region [Ob 152 (.call 13 []),Ob 6 (.mov (.t 152))])
 (.ret))
 (.skip)))
 (.seq (.region [Ob 153 (.lit false 44 5 []),Ob 154 (.mov (.t 1)),Ob 155 (.app false (.t 153) (.t 154) 44 5 40),Ob 18 (.mov (.t 155))])
 (.seq (.seq (.region [Ob 19 (.mov (Ci 0))])
 (.block 2 (.loop (.seq (.seq (.region [Ob 156 (.mov (.t 19)),Ob 157 (.mov (.t 10)),Ob 158 (.bin .leq (.t 156) (.t 157))])
 (.cond (.t 158) (.skip)
 (.exit 2)))
 (.seq (.block 3 (.region [Ob 161 (.mov (.t 18)),Ob 162 (.mov (.t 19)),Ob 163 (.bin .add (Ci 40) (.t 162)),Ob 164 (.addr (.t 5) 0),Ob 165 (.load (.t 164) none),Ob 166 (.mov (.t 19)),Ob 167 (.bin .add (Ci 40) (.t 166)),Ob 168 (.addr (.t 5) 2),Ob 169 (.load (.t 168) none),Ob 170 (.build [(.int .i64 0), (.int .i64 0), (.int .i64 0), (.int .i64 0), (.int .i64 0)] [(0, 1, (.t 163)), (1, 1, (.t 165)), (2, 1, (Ci 1)), (3, 1, (.t 167)), (4, 1, (.t 169))]),Ob 171 (.lit false 44 5 [(.t 170)]),Ob 172 (.app false (.t 161) (.t 171) 44 5 40),Ob 18 (.mov (.t 172))]))
 (.region [Ob 159 (.mov (.t 19)),Ob 160 (.bin .add (.t 159) (Ci 1)),Ob 19 (.mov (.t 160))]))))))
 (.seq (.seq (.region [Ob 20 (.mov (Ci 0))])
 (.block 4 (.loop (.seq (.seq (.region [Ob 173 (.mov (.t 20)),Ob 174 (.mov (.t 10)),Ob 175 (.bin .leq (.t 173) (.t 174))])
 (.cond (.t 175) (.skip)
 (.exit 4)))
 (.seq (.block 5 (.seq (.region [Ob 179 (.load (.t 3) (some 2)),Ob 180 (.mov (.t 18)),Ob 181 (.addr (.t 5) 0),Ob 182 (.load (.t 181) none),Ob 183 (.mov (.t 20)),Ob 184 (.bin .add (Ci 40) (.t 183)),Ob 185 (.call 14 [(.t 179), (.t 180), (.t 182), (.t 184)]),Ob 178 (.mov (.t 185)),Ob 186 (.ext (.t 178) 0),Ob 187 (.ext (.t 178) 1),Ob 21 (.new (.agg [(.int .i64 0), (.int .i64 0), (.int .i64 0), (.int .i64 0)]) 4),On (.store (.t 21) (.t 186) 4),Ob 22 (.mov (.t 187))])
 (.seq (.region [Ob 188 (.mov (.t 22)),Ob 189 (.bin .neq (.t 188) (Ci 0)),Ob 190 (.mov (.t 189)),Og 191 190 false (.addr (.t 21) 0),Og 192 190 false (.load (.t 191) none),Og 193 190 false (.bin .eql (.t 192) (Ci 2)),Og 194 190 false (.mov (.t 20)),Og 195 190 false (.mov (.t 10)),Og 196 190 false (.bin .lss (.t 194) (.t 195)),Og 197 190 false (.eqv true false [.b] (.t 193) (.t 196)),Ob 198 (.pick (.t 190) (.c (.bool true)) (.t 197)),Ob 199 (.mov (.t 198)),Og 200 199 false (.addr (.t 21) 0),Og 201 199 false (.load (.t 200) none),Og 202 199 false (.bin .eql (.t 201) (Ci 1)),Og 203 199 false (.mov (.t 20)),Og 204 199 false (.mov (.t 10)),Og 205 199 false (.bin .eql (.t 203) (.t 204)),Og 206 199 false (.eqv true false [.b] (.t 202) (.t 205)),Ob 207 (.pick (.t 199) (.c (.bool true)) (.t 206))])
 (.cond (.t 207) (.seq (.region [Ob 6 (.mov (.c (.bool false)))])
 (.ret))
 (.skip)))))
 (.region [Ob 176 (.mov (.t 20)),Ob 177 (.bin .add (.t 176) (Ci 1)),Ob 20 (.mov (.t 177))]))))))
 (.seq (.region [Ob 208 (.call 13 []),Ob 6 (.mov (.t 208))])
 (.ret)))))))))))))
def r7 : List Res := [.t 6]
def a7 : AFn := ⟨3, c7, r7,.v⟩

def c8 : ACode := .seq (.region [Ob 3 (.box (.t 0) 2),Ob 5 (.box (.t 2) 3),Ob 6 (.mov (.c (.bool false)))])
 (.seq (.seq (.region [Ob 18 (.load (.t 3) (some 2)),Ob 19 (.mov (.t 1)),Ob 20 (.addr (.t 5) 0),Ob 21 (.load (.t 20) none),Ob 22 (.call 11 [(.t 18), (.t 19), (.t 21)]),Ob 23 (.not (.t 22)),Ob 24 (.mov (.t 23)),Og 25 24 false (.addr (.t 5) 1),Og 26 24 false (.load (.t 25) none),Og 27 24 false (.call 12 [(.t 26)]),Og 28 24 false (.not (.t 27)),Ob 29 (.pick (.t 24) (.c (.bool true)) (.t 28)),Ob 30 (.mov (.t 29)),Og 31 30 false (.mov (.t 1)),Og 32 30 false (.len (.t 31)),Og 33 30 false (.bin .geq (.t 32) (Ci 40)),Ob 34 (.pick (.t 30) (.c (.bool true)) (.t 33))])
 (.cond (.t 34) (.seq (.region [Ob 35 (.call 13 []),Ob 6 (.mov (.t 35))])
 (.ret))
 (.skip)))
 (.seq (.region [Ob 7 (.mov (Ci (-1)))])
 (.seq (.seq (.region [Ob 8 (.mov (Ci 0))])
 (.block 0 (.loop (.seq (.seq (.region [Ob 36 (.mov (.t 8)),Ob 37 (.mov (.t 1)),Ob 38 (.len (.t 37)),Ob 39 (.bin .lss (.t 36) (.t 38))])
 (.cond (.t 39) (.skip)
 (.exit 0)))
 (.seq (.block 1 (.seq (.seq (.region [Ob 42 (.mov (.t 1)),Ob 43 (.mov (.t 8)),Ob 44 (.idx (.t 42) (.t 43) 5),Ob 45 (.addr (.t 44) 1),Ob 46 (.load (.t 45) none),Ob 47 (.addr (.t 5) 0),Ob 48 (.load (.t 47) none),Ob 49 (.bin .gtr (.t 46) (.t 48))])
 (.cond (.t 49) (.seq (.region [Ob 50 (.call 13 []),Ob 6 (.mov (.t 50))])
 (.ret))
 (.skip)))
 (.region [Ob 51 (.mov (.t 7)),Ob 52 (.mov (.t 1)),Ob 53 (.mov (.t 8)),Ob 54 (.idx (.t 52) (.t 53) 5),Ob 55 (.addr (.t 54) 0),Ob 56 (.load (.t 55) none),Ob 57 (.mnx true (.t 51) (.t 56)),Ob 7 (.mov (.t 57))])))
 (.region [Ob 40 (.mov (.t 8)),Ob 41 (.bin .add (.t 40) (Ci 1)),Ob 8 (.mov (.t 41))]))))))
 (.seq (.seq (.region [Ob 58 (.mov (.t 7)),Ob 59 (.bin .geq (.t 58) (Ci 99))])
 (.cond (.t 59) (.seq (.region [Ob 60 (.call 13 []),Ob 6 (.mov (.t 60))])
 (.ret))
 (.skip)))
 (.seq (.regionD [Ob 61 (.lit false 44 5 []),Ob 62 (.mov (.t 1)),Ob 64 (.mov (.t 7)),Ob 65 (.bin .add (.t 64) (Ci 1)),Ob 66 (.addr (.t 5) 0),Ob 67 (.load (.t 66) none),Ob 68 (.addr (.t 5) 1),Ob 69 (.load (.t 68) none),Ob 70 (.build [(.int .i64 0), (.int .i64 0), (.int .i64 0), (.int .i64 0), (.int .i64 0)] [(0, 1, (.t 65)), (1, 1, (.t 67)), (2, 1, (Ci 2)), (3, 1, (.t 69))]),Ob 71 (.lit false 44 5 [(.t 70)]),Ob 63 (.app false (.t 61) (.t 62) 44 5 40),Ob 72 (.app false (.t 63) (.t 71) 44 5 40),Ob 9 (.mov (.t 72))] [(5, 61), (66, 61), (5, 61), (68, 61)])
 (.seq (.region [Ob 74 (.load (.t 3) (some 2)),Ob 75 (.mov (.t 1)),Ob 76 (.addr (.t 5) 0),Ob 77 (.load (.t 76) none),Ob 78 (.addr (.t 5) 1),Ob 79 (.load (.t 78) none),Ob 80 (.call 14 [(.t 74), (.t 75), (.t 77), (.t 79)]),Ob 73 (.mov (.t 80)),Ob 81 (.ext (.t 73) 0),Ob 82 (.ext (.t 73) 1),Ob 10 (.new (.agg [(.int .i64 0), (.int .i64 0), (.int .i64 0), (.int .i64 0)]) 4),On (.store (.t 10) (.t 81) 4),Ob 11 (.mov (.t 82))])
 (.seq (.region [Ob 84 (.load (.t 3) (some 2)),Ob 85 (.mov (.t 9)),Ob 86 (.addr (.t 5) 0),Ob 87 (.load (.t 86) none),Ob 88 (.addr (.t 5) 1),Ob 89 (.load (.t 88) none),Ob 90 (.call 14 [(.t 84), (.t 85), (.t 87), (.t 89)]),Ob 83 (.mov (.t 90)),Ob 91 (.ext (.t 83) 0),Ob 92 (.ext (.t 83) 1),Ob 12 (.new (.agg [(.int .i64 0), (.int .i64 0), (.int .i64 0), (.int .i64 0)]) 4),On (.store (.t 12) (.t 91) 4),Ob 13 (.mov (.t 92))])
 (.seq (.region [Ob 94 (.load (.t 3) (some 2)),Ob 95 (.mov (.t 9)),Ob 96 (.addr (.t 5) 0),Ob 97 (.load (.t 96) none),Ob 98 (.call 17 [(.t 94), (.t 95), (.t 97)]),Ob 93 (.mov (.t 98)),Ob 99 (.ext (.t 93) 0),Ob 100 (.ext (.t 93) 1),Ob 14 (.mov (.t 99)),Ob 15 (.mov (.t 100))])
 (.seq (.seq (.region [Ob 101 (.mov (.t 11)),Ob 102 (.bin .neq (.t 101) (Ci 0)),Ob 103 (.mov (.t 102)),Og 104 103 false (.mov (.t 13)),Og 105 103 false (.bin .neq (.t 104) (Ci 0)),Ob 106 (.pick (.t 103) (.c (.bool true)) (.t 105)),Ob 107 (.mov (.t 106)),Og 108 107 false (.mov (.t 15)),Og 109 107 false (.bin .neq (.t 108) (Ci 0)),Ob 110 (.pick (.t 107) (.c (.bool true)) (.t 109)),Ob 111 (.mov (.t 110)),Og 112 111 false (.mov (.t 14)),Og 113 111 false (.len (.t 112)),Og 114 111 false (.bin .gtr (.t 113) (Ci 40)),Ob 115 (.pick (.t 111) (.c (.bool true)) (.t 114))])
 (.cond (.t 115) (.seq (.region [Ob 6 (.mov (.c (.bool false)))])
 (.ret))
 (.skip)))
 (.seq (.region [Ob 16 (.mov (.c (.bool false)))])
 (.seq (.seq (.region [Ob 17 (.mov (Ci 0))])
 (.block 2 (.loop (.seq (.seq (.region [Ob 116 (.mov (.t 17)),Ob 117 (.mov (.t 14)),Ob 118 (.len (.t 117)),Ob 119 (.bin .lss (.t 116) (.t 118))])
 (.cond (.t 119) (.skip)
 (.exit 2)))
 (.seq (.block 3 (.seq (.region [Ob 122 (.mov (.t 16)),Ob 123 (.mov (.t 122)),Og 124 123 false (.mov (.t 14)),Og 125 123 false (.mov (.t 17)),Og 126 123 false (.idx (.t 124) (.t 125) 1),Og 127 123 false (.load (.t 126) none),Og 128 123 false (.addr (.t 5) 1),Og 129 123 false (.load (.t 128) none),Og 130 123 false (.bin .eql (.t 127) (.t 129)),Ob 131 (.pick (.t 123) (.c (.bool true)) (.t 130)),Ob 16 (.mov (.t 131))])
 (.seq (.region [Ob 132 (.mov (.t 17)),Ob 133 (.bin .gtr (.t 132) (Ci 0)),Ob 134 (.mov (.t 133)),Og 135 134 true (.mov (.t 14)),Og 136 134 true (.mov (.t 17)),Og 137 134 true (.idx (.t 135) (.t 136) 1),Og 138 134 true (.load (.t 137) none),Og 139 134 true (.mov (.t 14)),Og 140 134 true (.mov (.t 17)),Og 141 134 true (.bin .sub (.t 140) (Ci 1)),Og 142 134 true (.idx (.t 139) (.t 141) 1),Og 143 134 true (.load (.t 142) none),Og 144 134 true (.bin .leq (.t 138) (.t 143)),Ob 145 (.pick (.t 134) (.t 144) (.c (.bool false)))])
 (.cond (.t 145) (.seq (.region [Ob 6 (.mov (.c (.bool false)))])
 (.ret))
 (.skip)))))
 (.region [Ob 120 (.mov (.t 17)),Ob 121 (.bin .add (.t 120) (Ci 1)),Ob 17 (.mov (.t 121))]))))))
 (.seq (.seq (.region [Ob 146 (.addr (.t 10) 0),Ob 147 (.load (.t 146) none),Ob 148 (.bin .eql (.t 147) (Ci 2))])
 (.cond (.t 148) (.seq (.region [Ob 149 (.addr (.t 10) 0),On (.store (.t 149) (Ci 3) 1)])
 (.seq (.region [Ob 150 (.load (.t 12) (some 4)),Ob 151 (.load (.t 10) (some 4)),Ob 152 (.eqv false true [.i,.i,.i,.i] (.t 150) (.t 151)),Ob 153 (.mov (.t 152)),Og 154 153 true (.call 13 []),Ob 155 (.pick (.t 153) (.t 154) (.c (.bool false))),Ob 6 (.mov (.t 155))])
 (.ret)))
 (.skip)))
 (.seq (.region [Ob 156 (.load (.t 12) (some 4)),Ob 157 (.load (.t 10) (some 4)),Ob 158 (.eqv false true [.i,.i,.i,.i] (.t 156) (.t 157)),Ob 159 (.mov (.t 158)),Og 160 159 true (.mov (.t 16)),Ob 161 (.pick (.t 159) (.t 160) (.c (.bool false))),Ob 162 (.mov (.t 161)),Og 163 162 true (.call 13 []),Ob 164 (.pick (.t 162) (.t 163) (.c (.bool false))),Ob 6 (.mov (.t 164))])
 (.ret))))))))))))))
def r8 : List Res := [.t 6]
def a8 : AFn := ⟨3, c8, r8,.v⟩

def c9 : ACode := .seq (.region [Ob 3 (.box (.t 0) 2),Ob 6 (.mov (.c (.bool false)))])
 (.seq (.seq (.region [Ob 9 (.load (.t 3) (some 2)),Ob 10 (.call 25 [(.t 9)]),Ob 11 (.not (.t 10)),Ob 12 (.mov (.t 11)),Og 13 12 false (.mov (.t 1)),Og 14 12 false (.call 26 [(.t 13)]),Og 15 12 false (.not (.t 14)),Ob 16 (.pick (.t 12) (.c (.bool true)) (.t 15)),Ob 17 (.mov (.t 16)),Og 18 17 false (.mov (.t 1)),Og 19 17 false (.len (.t 18)),Og 20 17 false (.bin .gtr (.t 19) (Ci 7)),Ob 21 (.pick (.t 17) (.c (.bool true)) (.t 20)),Ob 22 (.mov (.t 21)),Og 23 22 false (.mov (.t 2)),Og 24 22 false (.len (.t 23)),Og 25 22 false (.bin .gtr (.t 24) (Ci 20)),Ob 26 (.pick (.t 22) (.c (.bool true)) (.t 25))])
 (.cond (.t 26) (.seq (.region [Ob 27 (.call 13 []),Ob 6 (.mov (.t 27))])
 (.ret))
 (.skip)))
 (.seq (.region [Ob 29 (.load (.t 3) (some 2)),Ob 30 (.mov (.t 1)),Ob 31 (.call 27 [(.t 29), (.t 30)]),Ob 28 (.mov (.t 31)),Ob 32 (.ext (.t 28) 0),Ob 33 (.ext (.t 28) 1),Ob 7 (.mov (.t 32)),Ob 8 (.mov (.t 33))])
 (.seq (.seq (.region [Ob 34 (.mov (.t 8)),Ob 35 (.bin .neq (.t 34) (Ci 0))])
 (.cond (.t 35) (.seq (.region [Ob 36 (.mov (.t 8)),Ob 37 (.bin .eql (.t 36) (Ci 3)),Ob 38 (.mov (.t 37)),Og 39 38 true (.load (.t 3) (some 2)),Og 40 38 true (.mov (.t 1)),Og 41 38 true (.mov (.t 2)),Og 42 38 true (.call 28 [(.t 39), (.t 40), (.t 41)]),Og 43 38 true (.not (.t 42)),Ob 44 (.pick (.t 38) (.t 43) (.c (.bool false))),Ob 45 (.mov (.t 44)),Og 46 45 true (.call 13 []),Ob 47 (.pick (.t 45) (.t 46) (.c (.bool false))),Ob 6 (.mov (.t 47))])
 (.ret))
 (.skip)))
 (.seq (.region [Ob 48 (.load (.t 3) (some 2)),Ob 49 (.mov (.t 1)),Ob 50 (.mov (.t 7)),Ob 51 (.call 28 [(.t 48), (.t 49), (.t 50)]),Ob 52 (.mov (.t 51)),Og 53 52 true (.call 13 []),Ob 54 (.pick (.t 52) (.t 53) (.c (.bool false))),Ob 6 (.mov (.t 54))])
 (.ret)))))
def r9 : List Res := [.t 6]
def a9 : AFn := ⟨3, c9, r9,.v⟩

def c10 : ACode := .seq (.region [Ob 2 (.box (.t 0) 2),Ob 4 (.mov (.c (.bool false)))])
 (.seq (.seq (.region [Ob 9 (.addr (.t 2) 0),Ob 10 (.load (.t 9) none),Ob 11 (.len (.t 10)),Ob 12 (.bin .gtr (.t 11) (Ci 30)),Ob 13 (.mov (.t 12)),Og 14 13 false (.mov (.t 1)),Og 15 13 false (.len (.t 14)),Og 16 13 false (.bin .gtr (.t 15) (Ci 30)),Ob 17 (.pick (.t 13) (.c (.bool true)) (.t 16)),Ob 18 (.mov (.t 17)),Og 19 18 false (.mov (.t 1)),Og 20 18 false (.len (.t 19)),Og 21 18 false (.bin .gtr (.t 20) (Ci 7)),Og 22 18 false (.mov (.t 21)),Og 23 22 true (.mov (.t 1)),Og 24 22 true (.len (.t 23)),Og 25 22 true (.bin .leq (.t 24) (Ci 12)),Og 26 18 false (.pick (.t 22) (.t 25) (.c (.bool false))),Ob 27 (.pick (.t 18) (.c (.bool true)) (.t 26))])
 (.cond (.t 27) (.seq (.region [Ob 28 (.call 13 []),Ob 4 (.mov (.t 28))])
 (.ret))
 (.skip)))
 (.seq (.region [Ob 30 (.load (.t 2) (some 2)),Ob 31 (.call 29 [(.t 30), (.c (.sl [] .tight))]),Ob 29 (.mov (.t 31)),Ob 32 (.ext (.t 29) 0),Ob 33 (.ext (.t 29) 1),Ob 5 (.new (.agg [(.sl [] .tight), (.int .i64 0)]) 2),On (.store (.t 5) (.t 32) 2),Ob 6 (.mov (.t 33))])
 (.seq (.regionD [Ob 35 (.load (.t 5) (some 2)),Ob 36 (.lit false 3 1 []),Ob 37 (.mov (.t 1)),Ob 38 (.app false (.t 36) (.t 37) 3 1 8),Ob 39 (.call 27 [(.t 35), (.t 38)]),Ob 34 (.mov (.t 39)),Ob 40 (.ext (.t 34) 0),Ob 41 (.ext (.t 34) 1),Ob 7 (.mov (.t 40)),Ob 8 (.mov (.t 41))] [(5, 36)])
 (.seq (.seq (.region [Ob 42 (.mov (.t 8)),Ob 43 (.load (.t 2) (some 2)),Ob 44 (.mov (.t 1)),Ob 45 (.call 30 [(.t 43), (.t 44)]),Ob 46 (.bin .neq (.t 42) (.t 45)),Ob 47 (.mov (.t 46)),Og 48 47 false (.mov (.t 8)),Og 49 47 false (.bin .neq (.t 48) (Ci 0)),Og 50 47 false (.mov (.t 49)),Og 51 50 true (.mov (.t 7)),Og 52 50 true (.len (.t 51)),Og 53 50 true (.bin .gtr (.t 52) (Ci 0)),Og 54 47 false (.pick (.t 50) (.t 53) (.c (.bool false))),Ob 55 (.pick (.t 47) (.c (.bool true)) (.t 54))])
 (.cond (.t 55) (.seq (.region [Ob 4 (.mov (.c (.bool false)))])
 (.ret))
 (.skip)))
 (.seq (.region [Ob 56 (.mov (.t 8)),Ob 57 (.bin .neq (.t 56) (Ci 0)),Ob 58 (.mov (.t 57)),Og 59 58 false (.load (.t 2) (some 2)),Og 60 58 false (.mov (.t 1)),Og 61 58 false (.mov (.t 7)),Og 62 58 false (.call 28 [(.t 59), (.t 60), (.t 61)]),Ob 63 (.pick (.t 58) (.c (.bool true)) (.t 62)),Ob 64 (.mov (.t 63)),Og 65 64 true (.call 13 []),Ob 66 (.pick (.t 64) (.t 65) (.c (.bool false))),Ob 4 (.mov (.t 66))])
 (.ret))))))
def r10 : List Res := [.t 4]
def a10 : AFn := ⟨2, c10, r10,.v⟩

def c11 : ACode := .seq (.region [Ob 3 (.box (.t 0) 2),Ob 6 (.mov (.c (.bool false)))])
 (.seq (.region [Ob 7 (.load (.t 3) (some 2)),Ob 8 (.mov (.t 1)),Ob 9 (.call 31 [(.t 7), (.t 8)]),Ob 10 (.not (.t 9)),Ob 11 (.mov (.t 10)),Og 12 11 true (.load (.t 3) (some 2)),Og 13 11 true (.mov (.t 1)),Og 14 11 true (.call 32 [(.t 12), (.t 13)]),Og 15 11 true (.bin .eql (.t 14) (Ci 0)),Ob 16 (.pick (.t 11) (.t 15) (.c (.bool false))),Ob 17 (.mov (.t 16)),Og 18 17 true (.mov (.t 2)),Og 19 17 true (.bin .geq (.t 18) (Ci 0)),Ob 20 (.pick (.t 17) (.t 19) (.c (.bool false))),Ob 21 (.mov (.t 20)),Og 22 21 true (.mov (.t 2)),Og 23 21 true (.bin .leq (.t 22) (Ci 9999)),Ob 24 (.pick (.t 21) (.t 23) (.c (.bool false))),Ob 6 (.mov (.t 24))])
 (.ret))
def r11 : List Res := [.t 6]
def a11 : AFn := ⟨3, c11, r11,.v⟩

def c12 : ACode := .seq (.region [Ob 2 (.mov (.c (.bool false)))])
 (.seq (.region [Ob 3 (.mov (.t 0)),Ob 4 (.bin .geq (.t 3) (Ci 0)),Ob 5 (.mov (.t 4)),Og 6 5 true (.mov (.t 0)),Og 7 5 true (.bin .leq (.t 6) (Ci 99)),Ob 8 (.pick (.t 5) (.t 7) (.c (.bool false))),Ob 2 (.mov (.t 8))])
 (.ret))
def r12 : List Res := [.t 2]
def a12 : AFn := ⟨1, c12, r12,.v⟩

def c13 : ACode := .seq (.region [Ob 0 (.mov (.c (.bool false)))])
 (.seq (.region [Ob 11 (.call 33 []),Ob 10 (.mov (.t 11)),Ob 12 (.ext (.t 10) 0),Ob 13 (.ext (.t 10) 1),Ob 1 (.new (.agg [(.sl [] .tight), (.int .i64 0)]) 2),On (.store (.t 1) (.t 12) 2),Ob 2 (.mov (.t 13))])
 (.seq (.region [Ob 15 (.load (.t 1) (some 2)),Ob 16 (.mov (.t 2)),Ob 17 (.call 14 [(.t 15), (.t 16), (Ci 12), (Ci 2)]),Ob 14 (.mov (.t 17)),Ob 18 (.ext (.t 14) 0),Ob 19 (.ext (.t 14) 1),Ob 3 (.new (.agg [(.int .i64 0), (.int .i64 0), (.int .i64 0), (.int .i64 0)]) 4),On (.store (.t 3) (.t 18) 4),Ob 4 (.mov (.t 19))])
 (.seq (.region [Ob 21 (.load (.t 1) (some 2)),Ob 22 (.mov (.t 2)),Ob 23 (.call 20 [(.t 21), (.t 22), (Ci 1), (Ci 1)]),Ob 20 (.mov (.t 23)),Ob 24 (.ext (.t 20) 0),Ob 25 (.ext (.t 20) 1),Ob 26 (.ext (.t 20) 2),Ob 5 (.mov (.t 24)),Ob 6 (.mov (.t 25)),Ob 7 (.mov (.t 26))])
 (.seq (.region [Ob 28 (.load (.t 1) (some 2)),Ob 29 (.mov (.t 2)),Ob 30 (.call 17 [(.t 28), (.t 29), (Ci 12)]),Ob 27 (.mov (.t 30)),Ob 31 (.ext (.t 27) 0),Ob 32 (.ext (.t 27) 1),Ob 8 (.mov (.t 31)),Ob 9 (.mov (.t 32))])
 (.seq (.region [Ob 33 (.mov (.t 4)),Ob 34 (.bin .eql (.t 33) (Ci 0)),Ob 35 (.mov (.t 34)),Og 36 35 true (.mov (.t 7)),Og 37 35 true (.bin .eql (.t 36) (Ci 0)),Ob 38 (.pick (.t 35) (.t 37) (.c (.bool false))),Ob 39 (.mov (.t 38)),Og 40 39 true (.mov (.t 9)),Og 41 39 true (.bin .eql (.t 40) (Ci 0)),Ob 42 (.pick (.t 39) (.t 41) (.c (.bool false))),Ob 43 (.mov (.t 42)),Og 44 43 true (.load (.t 3) (some 4)),Og 45 43 true (.build [(.int .i64 0), (.int .i64 0), (.int .i64 0), (.int .i64 0)] [(0, 1, (Ci 4)), (1, 1, (Ci (-1))), (2, 1, (Ci (-1))), (3, 1, (Ci 2))]),Og 46 43 true (.eqv false true [.i,.i,.i,.i] (.t 44) (.t 45)),Ob 47 (.pick (.t 43) (.t 46) (.c (.bool false))),Ob 48 (.mov (.t 47)),Og 49 48 true (.mov (.t 5)),Og 50 48 true (.bin .eql (.t 49) (Ci 0)),Ob 51 (.pick (.t 48) (.t 50) (.c (.bool false))),Ob 52 (.mov (.t 51)),Og 53 52 true (.mov (.t 6)),Og 54 52 true (.bin .eql (.t 53) (Ci 4)),Ob 55 (.pick (.t 52) (.t 54) (.c (.bool false))),Ob 56 (.mov (.t 55)),Og 57 56 true (.mov (.t 8)),Og 58 56 true (.lit false 3 1 [(Ci 2)]),Og 59 56 true (.call 19 [(.t 57), (.t 58)]),Ob 60 (.pick (.t 56) (.t 59) (.c (.bool false))),Ob 0 (.mov (.t 60))])
 (.ret))))))
def r13 : List Res := [.t 0]
def a13 : AFn := ⟨0, c13, r13,.v⟩

def c14 : ACode := .seq (.region [Ob 4 (.box (.t 0) 2),Ob 8 (.new (.agg [(.int .i64 0), (.int .i64 0), (.int .i64 0), (.int .i64 0)]) 4),Ob 9 (.mov (Ci 0))])
 (.seq (.region [Ob 13 (.load (.t 4) (some 2)),Ob 14 (.mov (.t 1)),Ob 15 (.mov (.t 2)),Ob 16 (.call 34 [(.t 13), (.t 14), (.t 15)]),Ob 12 (.mov (.t 16)),Ob 17 (.ext (.t 12) 0),Ob 18 (.ext (.t 12) 1),Ob 10 (.new (.agg [(.sl [] .tight), (.int .i64 0), (.sl [] .tight),.nilm, (.sl [] .tight)]) 5),On (.store (.t 10) (.t 17) 5),Ob 11 (.mov (.t 18))])
 (.seq (.seq (.region [Ob 19 (.mov (.t 11)),Ob 20 (.bin .neq (.t 19) (Ci 0))])
 (.cond (.t 20) (.seq (.region [Ob 21 (.build [(.int .i64 0), (.int .i64 0), (.int .i64 0), (.int .i64 0)] []),Ob 22 (.mov (.t 11)),On (.store (.t 8) (.t 21) 4),Ob 9 (.mov (.t 22))])
 (.ret))
 (.skip)))
 (.seq (.seq (.region [Ob 23 (.mov (.t 3)),Ob 24 (.call 35 [(.t 23)]),Ob 25 (.not (.t 24))])
 (.cond (.t 25) (.seq (.region [Ob 26 (.build [(.int .i64 0), (.int .i64 0), (.int .i64 0), (.int .i64 0)] []),On (.store (.t 8) (.t 26) 4),Ob 9 (.mov (Ci 1))])
 (.ret))
 (.skip)))
 (.seq (.region [Ob 27 (.mov (.t 3)),Ob 28 (.call 36 [(.t 10), (.t 27)]),On (.store (.t 8) (.t 28) 4),Ob 9 (.mov (Ci 0))])
 (.ret)))))
def r14 : List Res := [.cell 8 (some 4),.t 9]
def a14 : AFn := ⟨4, c14, r14,.v⟩

def c15 : ACode := .seq (.region [Ob 3 (.box (.t 0) 2),Ob 6 (.mov (.c (.sl [] .tight))),Ob 7 (.mov (Ci 0))])
 (.seq (.region [Ob 11 (.load (.t 3) (some 2)),Ob 12 (.mov (.t 1)),Ob 13 (.mov (.t 2)),Ob 14 (.call 34 [(.t 11), (.t 12), (.t 13)]),Ob 10 (.mov (.t 14)),Ob 15 (.ext (.t 10) 0),Ob 16 (.ext (.t 10) 1),Ob 8 (.new (.agg [(.sl [] .tight), (.int .i64 0), (.sl [] .tight),.nilm, (.sl [] .tight)]) 5),On (.store (.t 8) (.t 15) 5),Ob 9 (.mov (.t 16))])
 (.seq (.region [Ob 17 (.addr (.t 8) 2),Ob 18 (.load (.t 17) none),Ob 19 (.mov (.t 9)),Ob 6 (.mov (.t 18)),Ob 7 (.mov (.t 19))])
 (.ret)))
def r15 : List Res := [.t 6,.t 7]
def a15 : AFn := ⟨3, c15, r15,.v⟩

def c16 : ACode := .seq (.region [Ob 2 (.box (.t 0) 2),Ob 4 (.mov (.c (.bool false)))])
 (.seq (.seq (.region [Ob 5 (.mov (Ci 0))])
 (.block 0 (.loop (.seq (.seq (.region [Ob 6 (.mov (.t 5)),Ob 7 (.mov (.t 1)),Ob 8 (.len (.t 7)),Ob 9 (.bin .lss (.t 6) (.t 8)),Ob 10 (.mov (.t 9)),Og 11 10 true (.mov (.t 5)),Og 12 10 true (.addr (.t 2) 0),Og 13 10 true (.load (.t 12) none),Og 14 10 true (.len (.t 13)),Og 15 10 true (.bin .lss (.t 11) (.t 14)),Ob 16 (.pick (.t 10) (.t 15) (.c (.bool false)))])
 (.cond (.t 16) (.skip)
 (.exit 0)))
 (.seq (.block 1 (.seq (.region [Ob 19 (.mov (.t 1)),Ob 20 (.mov (.t 5)),Ob 21 (.idx (.t 19) (.t 20) 1),Ob 22 (.load (.t 21) none),Ob 23 (.len (.t 22)),Ob 24 (.addr (.t 2) 0),Ob 25 (.load (.t 24) none),Ob 26 (.mov (.t 5)),Ob 27 (.idx (.t 25) (.t 26) 1),Ob 28 (.load (.t 27) none),Ob 29 (.bin .neq (.t 23) (.t 28))])
 (.cond (.t 29) (.seq (.region [Ob 4 (.mov (.c (.bool false)))])
 (.ret))
 (.skip))))
 (.region [Ob 17 (.mov (.t 5)),Ob 18 (.bin .add (.t 17) (Ci 1)),Ob 5 (.mov (.t 18))]))))))
 (.seq (.region [Ob 30 (.mov (.t 1)),Ob 31 (.len (.t 30)),Ob 32 (.addr (.t 2) 0),Ob 33 (.load (.t 32) none),Ob 34 (.len (.t 33)),Ob 35 (.bin .eql (.t 31) (.t 34)),Ob 4 (.mov (.t 35))])
 (.ret)))
def r16 : List Res := [.t 4]
def a16 : AFn := ⟨2, c16, r16,.v⟩

def c17 : ACode := .seq (.region [Ob 3 (.box (.t 0) 2),Ob 6 (.mov (.c (.sl [] .tight))),Ob 7 (.mov (Ci 0))])
 (.seq (.region [Ob 11 (.load (.t 3) (some 2)),Ob 12 (.mov (.t 1)),Ob 13 (.mov (.t 2)),Ob 14 (.call 34 [(.t 11), (.t 12), (.t 13)]),Ob 10 (.mov (.t 14)),Ob 15 (.ext (.t 10) 0),Ob 16 (.ext (.t 10) 1),Ob 8 (.new (.agg [(.sl [] .tight), (.int .i64 0), (.sl [] .tight),.nilm, (.sl [] .tight)]) 5),On (.store (.t 8) (.t 15) 5),Ob 9 (.mov (.t 16))])
 (.seq (.seq (.region [Ob 17 (.mov (.t 9)),Ob 18 (.bin .neq (.t 17) (Ci 0))])
 (.cond (.t 18) (.seq (.region [Ob 19 (.mov (.t 9)),Ob 6 (.mov (.c (.sl [] .tight))),Ob 7 (.mov (.t 19))])
 (.ret))
 (.skip)))
 (.seq (.region [Ob 20 (.addr (.t 8) 4),Ob 21 (.load (.t 20) none),Ob 22 (.call 37 [(.t 21)])])
 (.seq (.region [Ob 23 (.addr (.t 8) 4),Ob 24 (.load (.t 23) none),Ob 25 (.call 38 [(.t 24)]),Ob 6 (.mov (.t 25)),Ob 7 (.mov (Ci 0))])
 (.ret)))))
def r17 : List Res := [.t 6,.t 7]
def a17 : AFn := ⟨3, c17, r17,.v⟩

def c18 : ACode := .seq (.region [Ob 4 (.mov (.c (.bool false)))])
 (.seq (.seq (.region [Ob 6 (.mov (.t 0)),Ob 7 (.len (.t 6)),Ob 8 (.mov (.t 1)),Ob 9 (.len (.t 8)),Ob 10 (.bin .neq (.t 7) (.t 9))])
 (.cond (.t 10) (.seq (.region [Ob 4 (.mov (.c (.bool false)))])
 (.ret))
 (.skip)))
 (.seq (.seq (.region [Ob 5 (.mov (Ci 0))])
 (.block 0 (.loop (.seq (.seq (.region [Ob 11 (.mov (.t 5)),Ob 12 (.mov (.t 0)),Ob 13 (.len (.t 12)),Ob 14 (.bin .lss (.t 11) (.t 13))])
 (.cond (.t 14) (.skip)
 (.exit 0)))
 (.seq (.block 1 (.seq (.region [Ob 17 (.mov (.t 0)),Ob 18 (.mov (.t 5)),Ob 19 (.idx (.t 17) (.t 18) 1),Ob 20 (.load (.t 19) none),Ob 21 (.mov (.t 1)),Ob 22 (.mov (.t 5)),Ob 23 (.idx (.t 21) (.t 22) 1),Ob 24 (.load (.t 23) none),Ob 25 (.call 19 [(.t 20), (.t 24)]),Ob 26 (.not (.t 25))])
 (.cond (.t 26) (.seq (.region [Ob 4 (.mov (.c (.bool false)))])
 (.ret))
 (.skip))))
 (.region [Ob 15 (.mov (.t 5)),Ob 16 (.bin .add (.t 15) (Ci 1)),Ob 5 (.mov (.t 16))]))))))
 (.seq (.region [Ob 4 (.mov (.c (.bool true)))])
 (.ret))))
def r18 : List Res := [.t 4]
def a18 : AFn := ⟨2, c18, r18,.v⟩

def c19 : ACode := .seq (.region [Ob 4 (.mov (.c (.bool false)))])
 (.seq (.seq (.region [Ob 6 (.mov (.t 0)),Ob 7 (.len (.t 6)),Ob 8 (.mov (.t 1)),Ob 9 (.len (.t 8)),Ob 10 (.bin .neq (.t 7) (.t 9))])
 (.cond (.t 10) (.seq (.region [Ob 4 (.mov (.c (.bool false)))])
 (.ret))
 (.skip)))
 (.seq (.seq (.region [Ob 5 (.mov (Ci 0))])
 (.block 0 (.loop (.seq (.seq (.region [Ob 11 (.mov (.t 5)),Ob 12 (.mov (.t 0)),Ob 13 (.len (.t 12)),Ob 14 (.bin .lss (.t 11) (.t 13))])
 (.cond (.t 14) (.skip)
 (.exit 0)))
 (.seq (.block 1 (.seq (.region [Ob 17 (.mov (.t 0)),Ob 18 (.mov (.t 5)),Ob 19 (.idx (.t 17) (.t 18) 1),Ob 20 (.load (.t 19) none),Ob 21 (.mov (.t 1)),Ob 22 (.mov (.t 5)),Ob 23 (.idx (.t 21) (.t 22) 1),Ob 24 (.load (.t 23) none),Ob 25 (.bin .neq (.t 20) (.t 24))])
 (.cond (.t 25) (.seq (.region [Ob 4 (.mov (.c (.bool false)))])
 (.ret))
 (.skip))))
 (.region [Ob 15 (.mov (.t 5)),Ob 16 (.bin .add (.t 15) (Ci 1)),Ob 5 (.mov (.t 16))]))))))
 (.seq (.region [Ob 4 (.mov (.c (.bool true)))])
 (.ret))))
def r19 : List Res := [.t 4]
def a19 : AFn := ⟨2, c19, r19,.v⟩

def c20 : ACode := .seq (.region [Ob 4 (.box (.t 0) 2),Ob 8 (.mov (Ci 0)),Ob 9 (.mov (Ci 0)),Ob 10 (.mov (Ci 0))])
 (.seq (.region [Ob 14 (.load (.t 4) (some 2)),Ob 15 (.mov (.t 1)),Ob 16 (.mov (.t 2)),Ob 17 (.call 34 [(.t 14), (.t 15), (.t 16)]),Ob 13 (.mov (.t 17)),Ob 18 (.ext (.t 13) 0),Ob 19 (.ext (.t 13) 1),Ob 11 (.new (.agg [(.sl [] .tight), (.int .i64 0), (.sl [] .tight),.nilm, (.sl [] .tight)]) 5),On (.store (.t 11) (.t 18) 5),Ob 10 (.mov (.t 19))])
 (.seq (.seq (.region [Ob 20 (.mov (.t 10)),Ob 21 (.bin .neq (.t 20) (Ci 0))])
 (.cond (.t 21) (.seq (.region [Ob 22 (.mov (.t 10)),Ob 8 (.mov (Ci 0)),Ob 9 (.mov (Ci 0)),Ob 10 (.mov (.t 22))])
 (.ret))
 (.skip)))
 (.seq (.seq (.region [Ob 23 (.mov (.t 3)),Ob 24 (.call 39 [(.t 23)]),Ob 25 (.not (.t 24))])
 (.cond (.t 25) (.seq (.region [Ob 8 (.mov (Ci 0)),Ob 9 (.mov (Ci 0)),Ob 10 (.mov (Ci 1))])
 (.ret))
 (.skip)))
 (.seq (.region [Ob 27 (.mov (.t 3)),Ob 28 (.call 40 [(.t 11), (.t 27)]),Ob 26 (.mov (.t 28)),Ob 29 (.ext (.t 26) 0),Ob 30 (.ext (.t 26) 1),Ob 31 (.ext (.t 26) 2),Ob 8 (.mov (.t 29)),Ob 9 (.mov (.t 30)),Ob 12 (.mov (.t 31))])
 (.seq (.seq (.region [Ob 32 (.mov (.t 12)),Ob 33 (.not (.t 32))])
 (.cond (.t 33) (.seq (.region [Ob 8 (.mov (Ci 0)),Ob 9 (.mov (Ci 0)),Ob 10 (.mov (Ci 3))])
 (.ret))
 (.skip)))
 (.seq (.region [Ob 34 (.mov (.t 8)),Ob 35 (.mov (.t 9)),Ob 8 (.mov (.t 34)),Ob 9 (.mov (.t 35)),Ob 10 (.mov (Ci 0))])
 (.ret)))))))
def r20 : List Res := [.t 8,.t 9,.t 10]
def a20 : AFn := ⟨4, c20, r20,.v⟩

def c21 : ACode := .seq (.region [Ob 6 (.mov (.c (.bool false)))])
 (.seq (.seq (.region [Ob 8 (.mov (.t 1)),Ob 7 (.mov (.t 8))])
 (.block 0 (.loop (.seq (.seq (.region [Ob 9 (.mov (.t 7)),Ob 10 (.mov (.t 1)),Ob 11 (.mov (.t 2)),Ob 12 (.bin .add (.t 10) (.t 11)),Ob 13 (.bin .lss (.t 9) (.t 12))])
 (.cond (.t 13) (.skip)
 (.exit 0)))
 (.seq (.block 1 (.seq (.region [Ob 16 (.mov (.t 0)),Ob 17 (.mov (.t 7)),Ob 18 (.call 41 [(.t 16), (.t 17)]),Ob 19 (.not (.t 18))])
 (.cond (.t 19) (.seq (.region [Ob 6 (.mov (.c (.bool false)))])
 (.ret))
 (.skip))))
 (.region [Ob 14 (.mov (.t 7)),Ob 15 (.bin .add (.t 14) (Ci 1)),Ob 7 (.mov (.t 15))]))))))
 (.seq (.region [Ob 6 (.mov (.c (.bool true)))])
 (.ret)))
def r21 : List Res := [.t 6]
def a21 : AFn := ⟨3, c21, r21,.v⟩

def c22 : ACode := .seq (.region [Ob 6 (.mov (.c (.bool false)))])
 (.seq (.region [Ob 9 (.mov (.t 1)),Ob 10 (.bin .sub (.t 9) (Ci 1)),Ob 11 (.mov (.t 1)),Ob 12 (.mov (.t 2)),Ob 13 (.bin .add (.t 11) (.t 12)),Ob 7 (.mov (.t 10)),Ob 8 (.mov (.t 13))])
 (.seq (.region [Ob 14 (.mov (.t 0)),Ob 15 (.mov (.t 7)),Ob 16 (.call 41 [(.t 14), (.t 15)]),Ob 17 (.mov (.t 16)),Og 18 17 true (.mov (.t 0)),Og 19 17 true (.mov (.t 7)),Og 20 17 true (.bin .sub (.t 19) (Ci 1)),Og 21 17 true (.call 41 [(.t 18), (.t 20)]),Og 22 17 true (.not (.t 21)),Ob 23 (.pick (.t 17) (.t 22) (.c (.bool false))),Ob 24 (.mov (.t 23)),Og 25 24 false (.mov (.t 0)),Og 26 24 false (.mov (.t 8)),Og 27 24 false (.call 41 [(.t 25), (.t 26)]),Og 28 24 false (.mov (.t 27)),Og 29 28 true (.mov (.t 0)),Og 30 28 true (.mov (.t 8)),Og 31 28 true (.bin .add (.t 30) (Ci 1)),Og 32 28 true (.call 41 [(.t 29), (.t 31)]),Og 33 28 true (.not (.t 32)),Og 34 24 false (.pick (.t 28) (.t 33) (.c (.bool false))),Ob 35 (.pick (.t 24) (.c (.bool true)) (.t 34)),Ob 6 (.mov (.t 35))])
 (.ret)))
def r22 : List Res := [.t 6]
def a22 : AFn := ⟨3, c22, r22,.v⟩

def c23 : ACode := .seq (.region [Ob 3 (.box (.t 0) 2),Ob 6 (.mov (Ci 0)),Ob 7 (.mov (Ci 0))])
 (.seq (.region [Ob 15 (.load (.t 3) (some 2)),Ob 16 (.mov (.t 1)),Ob 17 (.mov (.t 2)),Ob 18 (.call 34 [(.t 15), (.t 16), (.t 17)]),Ob 14 (.mov (.t 18)),Ob 19 (.ext (.t 14) 0),Ob 20 (.ext (.t 14) 1),Ob 8 (.new (.agg [(.sl [] .tight), (.int .i64 0), (.sl [] .tight),.nilm, (.sl [] .tight)]) 5),On (.store (.t 8) (.t 19) 5),Ob 9 (.mov (.t 20))])
 (.seq (.seq (.region [Ob 21 (.mov (.t 9)),Ob 22 (.bin .neq (.t 21) (Ci 0))])
 (.cond (.t 22) (.seq (.region [Ob 23 (.mov (.t 9)),Ob 6 (.mov (Ci 0)),Ob 7 (.mov (.t 23))])
 (.ret))
 (.skip)))
 (.seq (.seq (.region [Ob 10 (.mov (Ci 12))])
 (.block 0 (.loop (.seq (.seq (.region [Ob 24 (.mov (.t 10)),Ob 25 (.bin .gtr (.t 24) (Ci 0))])
 (.cond (.t 25) (.skip)
 (.exit 0)))
 (.seq (.block 1 (.seq (.region [Ob 29 (.mov (.t 10)),Ob 30 (.call 40 [(.t 8), (.t 29)]),Ob 28 (.mov (.t 30)),Ob 31 (.ext (.t 28) 0),Ob 32 (.ext (.t 28) 1),Ob 33 (.ext (.t 28) 2),Ob 11 (.mov (.t 31)),Ob 12 (.mov (.t 32)),Ob 13 (.mov (.t 33))])
 (.seq (.region [Ob 34 (.mov (.t 13))])
 (.cond (.t 34) (.seq (.region [Ob 35 (.mov (.t 10)),Ob 6 (.mov (.t 35)),Ob 7 (.mov (Ci 0))])
 (.ret))
 (.skip)))))
 (.region [Ob 26 (.mov (.t 10)),Ob 27 (.bin .sub (.t 26) (Ci 1)),Ob 10 (.mov (.t 27))]))))))
 (.seq (.region [Ob 6 (.mov (Ci 0)),Ob 7 (.mov (Ci 0))])
 (.ret)))))
def r23 : List Res := [.t 6,.t 7]
def a23 : AFn := ⟨3, c23, r23,.v⟩

def c24 : ACode := .seq (.region [Ob 4 (.box (.t 0) 2),Ob 8 (.mov (Ci 0)),Ob 9 (.mov (Ci 0))])
 (.seq (.region [Ob 13 (.load (.t 4) (some 2)),Ob 14 (.mov (.t 1)),Ob 15 (.mov (.t 2)),Ob 16 (.call 34 [(.t 13), (.t 14), (.t 15)]),Ob 12 (.mov (.t 16)),Ob 17 (.ext (.t 12) 0),Ob 18 (.ext (.t 12) 1),Ob 10 (.new (.agg [(.sl [] .tight), (.int .i64 0), (.sl [] .tight),.nilm, (.sl [] .tight)]) 5),On (.store (.t 10) (.t 17) 5),Ob 11 (.mov (.t 18))])
 (.seq (.seq (.region [Ob 19 (.mov (.t 11)),Ob 20 (.bin .neq (.t 19) (Ci 0))])
 (.cond (.t 20) (.seq (.region [Ob 21 (.mov (.t 11)),Ob 8 (.mov (Ci 0)),Ob 9 (.mov (.t 21))])
 (.ret))
 (.skip)))
 (.seq (.seq (.region [Ob 22 (.mov (.t 3)),Ob 23 (.call 39 [(.t 22)]),Ob 24 (.not (.t 23))])
 (.cond (.t 24) (.seq (.region [Ob 8 (.mov (Ci 0)),Ob 9 (.mov (Ci 1))])
 (.ret))
 (.skip)))
 (.seq (.region [Ob 25 (.mov (.t 3)),Ob 26 (.call 42 [(.t 10), (.t 25)]),Ob 8 (.mov (.t 26)),Ob 9 (.mov (Ci 0))])
 (.ret)))))
def r24 : List Res := [.t 8,.t 9]
def a24 : AFn := ⟨4, c24, r24,.v⟩

def c25 : ACode := .seq (.region [Ob 1 (.box (.t 0) 2),Ob 2 (.mov (.c (.bool false)))])
 (.seq (.seq (.region [Ob 3 (.mov (Ci 0))])
 (.block 0 (.loop (.seq (.seq (.region [Ob 4 (.mov (.t 3)),Ob 5 (.addr (.t 1) 0),Ob 6 (.load (.t 5) none),Ob 7 (.len (.t 6)),Ob 8 (.bin .lss (.t 4) (.t 7))])
 (.cond (.t 8) (.skip)
 (.exit 0)))
 (.seq (.block 1 (.seq (.region [Ob 11 (.addr (.t 1) 0),Ob 12 (.load (.t 11) none),Ob 13 (.mov (.t 3)),Ob 14 (.idx (.t 12) (.t 13) 1),Ob 15 (.load (.t 14) none),Ob 16 (.call 43 [(.t 15), (Ci 1), (Ci 12)]),Ob 17 (.not (.t 16))])
 (.cond (.t 17) (.seq (.region [Ob 2 (.mov (.c (.bool false)))])
 (.ret))
 (.skip))))
 (.region [Ob 9 (.mov (.t 3)),Ob 10 (.bin .add (.t 9) (Ci 1)),Ob 3 (.mov (.t 10))]))))))
 (.seq (.region [Ob 18 (.addr (.t 1) 0),Ob 19 (.load (.t 18) none),Ob 20 (.len (.t 19)),Ob 21 (.call 43 [(.t 20), (Ci 1), (Ci 6)]),Ob 22 (.mov (.t 21)),Og 23 22 true (.addr (.t 1) 1),Og 24 22 true (.load (.t 23) none),Og 25 22 true (.call 43 [(.t 24), (Ci 1), (Ci 600)]),Ob 26 (.pick (.t 22) (.t 25) (.c (.bool false))),Ob 2 (.mov (.t 26))])
 (.ret)))
def r25 : List Res := [.t 2]
def a25 : AFn := ⟨1, c25, r25,.v⟩

def c26 : ACode := .seq (.region [Ob 2 (.mov (.c (.bool false)))])
 (.seq (.seq (.region [Ob 3 (.mov (Ci 0))])
 (.block 0 (.loop (.seq (.seq (.region [Ob 4 (.mov (.t 3)),Ob 5 (.mov (.t 0)),Ob 6 (.len (.t 5)),Ob 7 (.bin .lss (.t 4) (.t 6))])
 (.cond (.t 7) (.skip)
 (.exit 0)))
 (.seq (.block 1 (.seq (.region [Ob 10 (.mov (.t 0)),Ob 11 (.mov (.t 3)),Ob 12 (.idx (.t 10) (.t 11) 1),Ob 13 (.load (.t 12) none),Ob 14 (.call 43 [(.t 13), (Ci 1), (Ci 12)]),Ob 15 (.not (.t 14))])
 (.cond (.t 15) (.seq (.region [Ob 2 (.mov (.c (.bool false)))])
 (.ret))
 (.skip))))
 (.region [Ob 8 (.mov (.t 3)),Ob 9 (.bin .add (.t 8) (Ci 1)),Ob 3 (.mov (.t 9))]))))))
 (.seq (.region [Ob 16 (.mov (.t 0)),Ob 17 (.len (.t 16)),Ob 18 (.bin .leq (.t 17) (Ci 12)),Ob 2 (.mov (.t 18))])
 (.ret)))
def r26 : List Res := [.t 2]
def a26 : AFn := ⟨1, c26, r26,.v⟩

def c27 : ACode := .seq (.region [Ob 2 (.box (.t 0) 2),Ob 4 (.mov (.c (.sl [] .tight))),Ob 5 (.mov (Ci 0))])
 (.seq (.block 0 (.seq (.region [Ob 9 (.load (.t 2) (some 2)),Ob 10 (.call 44 [(.t 9)]),Ob 11 (.not (.t 10)),Ob 8 (.mov (.t 11))])
 (.cond (.t 8) (.seq (.region [Ob 4 (.mov (.c (.sl [] .tight))),Ob 5 (.mov (Ci 40))])
 (.ret))
 (.seq (.region [Ob 13 (.mov (.t 1)),Ob 14 (.len (.t 13)),Ob 15 (.bin .gtr (.t 14) (Ci 12)),Ob 16 (.mov (.t 15)),Og 17 16 false (.mov (.t 1)),Og 18 16 false (.call 45 [(.t 17), (.c (.fn 39 [] []))]),Og 19 16 false (.not (.t 18)),Ob 20 (.pick (.t 16) (.c (.bool true)) (.t 19)),Ob 12 (.mov (.t 20))])
 (.cond (.t 12) (.seq (.region [Ob 4 (.mov (.c (.sl [] .tight))),Ob 5 (.mov (Ci 1))])
 (.ret))
 (.skip))))))
 (.seq (.region [Ob 22 (.addr (.t 2) 0),Ob 23 (.load (.t 22) none),Ob 24 (.mov (.t 1)),Ob 25 (.call 46 [(.t 23), (.t 24)]),Ob 21 (.mov (.t 25)),Ob 26 (.ext (.t 21) 0),Ob 27 (.ext (.t 21) 1),Ob 6 (.mov (.t 26)),Ob 7 (.mov (.t 27))])
 (.seq (.seq (.region [Ob 28 (.mov (.t 7)),Ob 29 (.not (.t 28))])
 (.cond (.t 29) (.seq (.region [Ob 4 (.mov (.c (.sl [] .tight))),Ob 5 (.mov (Ci 3))])
 (.ret))
 (.skip)))
 (.seq (.region [Ob 30 (.mov (.t 6)),Ob 4 (.mov (.t 30)),Ob 5 (.mov (Ci 0))])
 (.ret)))))
def r27 : List Res := [.t 4,.t 5]
def a27 : AFn := ⟨2, c27, r27,.v⟩

def c28 : ACode := .seq (.region [Ob 3 (.box (.t 0) 2),Ob 6 (.mov (.c (.bool false)))])
 (.seq (.region [Ob 9 (.lit false 3 1 []),Ob 10 (.addr (.t 3) 0),Ob 11 (.load (.t 10) none),Ob 12 (.app0 (.t 9) (.t 11) 3 1 8),Ob 7 (.mov (.t 12))])
 (.seq (.seq (.region [Ob 8 (.mov (Ci 0))])
 (.block 0 (.loop (.seq (.seq (.region [Ob 13 (.mov (.t 8)),Ob 14 (.mov (.t 2)),Ob 15 (.len (.t 14)),Ob 16 (.bin .lss (.t 13) (.t 15)),Ob 17 (.mov (.t 16)),Og 18 17 true (.mov (.t 8)),Og 19 17 true (.mov (.t 1)),Og 20 17 true (.len (.t 19)),Og 21 17 true (.bin .lss (.t 18) (.t 20)),Ob 22 (.pick (.t 17) (.t 21) (.c (.bool false)))])
 (.cond (.t 22) (.skip)
 (.exit 0)))
 (.seq (.block 1 (.seq (.seq (.region [Ob 25 (.mov (.t 2)),Ob 26 (.mov (.t 8)),Ob 27 (.idx (.t 25) (.t 26) 1),Ob 28 (.load (.t 27) none),Ob 29 (.mov (.t 7)),Ob 30 (.len (.t 29)),Ob 31 (.bin .sub (.t 30) (Ci 1)),Ob 32 (.call 43 [(.t 28), (Ci 0), (.t 31)]),Ob 33 (.not (.t 32))])
 (.cond (.t 33) (.seq (.region [Ob 6 (.mov (.c (.bool false)))])
 (.ret))
 (.skip)))
 (.seq (.region [Ob 34 (.mov (.t 7)),Ob 35 (.mov (.t 2)),Ob 36 (.mov (.t 8)),Ob 37 (.idx (.t 35) (.t 36) 1),Ob 38 (.load (.t 37) none),Ob 39 (.idx (.t 34) (.t 38) 1),Ob 40 (.load (.t 39) none),Ob 41 (.mov (.t 1)),Ob 42 (.mov (.t 8)),Ob 43 (.idx (.t 41) (.t 42) 1),Ob 44 (.load (.t 43) none),Ob 45 (.bin .sub (.t 40) (.t 44)),Ob 46 (.idx (.t 34) (.t 38) 1),On (.store (.t 46) (.t 45) 1)])
 (.seq (.region [Ob 47 (.mov (.t 7)),Ob 48 (.mov (.t 2)),Ob 49 (.mov (.t 8)),Ob 50 (.idx (.t 48) (.t 49) 1),Ob 51 (.load (.t 50) none),Ob 52 (.idx (.t 47) (.t 51) 1),Ob 53 (.load (.t 52) none),Ob 54 (.bin .lss (.t 53) (Ci 0))])
 (.cond (.t 54) (.seq (.region [Ob 6 (.mov (.c (.bool false)))])
 (.ret))
 (.skip))))))
 (.region [Ob 23 (.mov (.t 8)),Ob 24 (.bin .add (.t 23) (Ci 1)),Ob 8 (.mov (.t 24))]))))))
 (.seq (.region [Ob 55 (.mov (.t 2)),Ob 56 (.len (.t 55)),Ob 57 (.mov (.t 1)),Ob 58 (.len (.t 57)),Ob 59 (.bin .eql (.t 56) (.t 58)),Ob 6 (.mov (.t 59))])
 (.ret))))
def r28 : List Res := [.t 6]
def a28 : AFn := ⟨3, c28, r28,.v⟩

def c29 : ACode := .seq (.region [Ob 2 (.box (.t 0) 2),Ob 4 (.new (.agg [(.sl [] .tight), (.int .i64 0)]) 2),Ob 5 (.mov (.c (.sl [] .tight)))])
 (.seq (.region [Ob 6 (.lit false 3 1 []),Ob 7 (.addr (.t 2) 0),Ob 8 (.load (.t 7) none),Ob 9 (.app false (.t 6) (.t 8) 3 1 8),Ob 10 (.addr (.t 2) 0),On (.store (.t 10) (.t 9) 1)])
 (.seq (.regionD [Ob 11 (.load (.t 2) (some 2)),Ob 12 (.lit false 44 5 []),Ob 13 (.mov (.t 1)),Ob 14 (.app false (.t 12) (.t 13) 44 5 40),On (.store (.t 4) (.t 11) 2),Ob 5 (.mov (.t 14))] [(2, 12)])
 (.ret)))
def r29 : List Res := [.cell 4 (some 2),.t 5]
def a29 : AFn := ⟨2, c29, r29,.v⟩

def c30 : ACode := .seq (.region [Ob 2 (.box (.t 0) 2),Ob 4 (.mov (Ci 0))])
 (.seq (.seq (.region [Ob 5 (.load (.t 2) (some 2)),Ob 6 (.call 25 [(.t 5)]),Ob 7 (.not (.t 6))])
 (.cond (.t 7) (.seq (.region [Ob 4 (.mov (Ci 40))])
 (.ret))
 (.skip)))
 (.seq (.seq (.region [Ob 8 (.mov (.t 1)),Ob 9 (.call 26 [(.t 8)]),Ob 10 (.not (.t 9))])
 (.cond (.t 10) (.seq (.region [Ob 4 (.mov (Ci 1))])
 (.ret))
 (.skip)))
 (.seq (.seq (.region [Ob 11 (.addr (.t 2) 0),Ob 12 (.load (.t 11) none),Ob 13 (.mov (.t 1)),Ob 14 (.call 47 [(.t 12), (.t 13)]),Ob 15 (.not (.t 14))])
 (.cond (.t 15) (.seq (.region [Ob 4 (.mov (Ci 3))])
 (.ret))
 (.skip)))
 (.seq (.region [Ob 4 (.mov (Ci 0))])
 (.ret)))))
def r30 : List Res := [.t 4]
def a30 : AFn := ⟨2, c30, r30,.v⟩

def c31 : ACode := .seq (.region [Ob 2 (.box (.t 0) 2),Ob 4 (.mov (.c (.bool false)))])
 (.seq (.region [Ob 5 (.addr (.t 2) 0),Ob 6 (.load (.t 5) none),Ob 7 (.len (.t 6)),Ob 8 (.bin .gtr (.t 7) (Ci 30)),Ob 9 (.mov (.t 8)),Og 10 9 false (.mov (.t 1)),Og 11 9 false (.len (.t 10)),Og 12 9 false (.bin .gtr (.t 11) (Ci 60)),Ob 13 (.pick (.t 9) (.c (.bool true)) (.t 12)),Ob 4 (.mov (.t 13))])
 (.ret))
def r31 : List Res := [.t 4]
def a31 : AFn := ⟨2, c31, r31,.v⟩

def c32 : ACode := .seq (.region [Ob 2 (.box (.t 0) 2),Ob 4 (.mov (Ci 0))])
 (.seq (.seq (.region [Ob 7 (.load (.t 2) (some 2)),Ob 8 (.call 25 [(.t 7)]),Ob 9 (.not (.t 8))])
 (.cond (.t 9) (.seq (.region [Ob 4 (.mov (Ci 40))])
 (.ret))
 (.skip)))
 (.seq (.seq (.region [Ob 10 (.mov (.t 1)),Ob 11 (.len (.t 10)),Ob 12 (.bin .gtr (.t 11) (Ci 40))])
 (.cond (.t 12) (.seq (.region [Ob 4 (.mov (Ci 41))])
 (.ret))
 (.skip)))
 (.seq (.seq (.region [Ob 5 (.mov (Ci 0))])
 (.block 0 (.loop (.seq (.seq (.region [Ob 13 (.mov (.t 5)),Ob 14 (.mov (.t 1)),Ob 15 (.len (.t 14)),Ob 16 (.bin .lss (.t 13) (.t 15))])
 (.cond (.t 16) (.skip)
 (.exit 0)))
 (.seq (.block 1 (.seq (.seq (.region [Ob 19 (.mov (.t 1)),Ob 20 (.mov (.t 5)),Ob 21 (.idx (.t 19) (.t 20) 5),Ob 22 (.load (.t 21) (some 5)),Ob 23 (.call 48 [(.t 22)]),Ob 24 (.not (.t 23))])
 (.cond (.t 24) (.seq (.region [Ob 4 (.mov (Ci 41))])
 (.ret))
 (.skip)))
 (.seq (.region [Ob 6 (.mov (Ci 0))])
 (.block 2 (.loop (.seq (.seq (.region [Ob 25 (.mov (.t 6)),Ob 26 (.mov (.t 5)),Ob 27 (.bin .lss (.t 25) (.t 26))])
 (.cond (.t 27) (.skip)
 (.exit 2)))
 (.seq (.block 3 (.seq (.region [Ob 30 (.mov (.t 1)),Ob 31 (.mov (.t 6)),Ob 32 (.idx (.t 30) (.t 31) 5),Ob 33 (.addr (.t 32) 0),Ob 34 (.load (.t 33) none),Ob 35 (.mov (.t 1)),Ob 36 (.mov (.t 5)),Ob 37 (.idx (.t 35) (.t 36) 5),Ob 38 (.addr (.t 37) 0),Ob 39 (.load (.t 38) none),Ob 40 (.bin .eql (.t 34) (.t 39)),Ob 41 (.mov (.t 40)),Og 42 41 true (.mov (.t 1)),Og 43 41 true (.mov (.t 6)),Og 44 41 true (.idx (.t 42) (.t 43) 5),Og 45 41 true (.load (.t 44) (some 5)),Og 46 41 true (.mov (.t 1)),Og 47 41 true (.mov (.t 5)),Og 48 41 true (.idx (.t 46) (.t 47) 5),Og 49 41 true (.load (.t 48) (some 5)),Og 50 41 true (.eqv true true [.i,.i,.i,.i,.i] (.t 45) (.t 49)),Ob 51 (.pick (.t 41) (.t 50) (.c (.bool false)))])
 (.cond (.t 51) (.seq (.region [Ob 4 (.mov (Ci 41))])
 (.ret))
 (.skip))))
 (.region [Ob 28 (.mov (.t 6)),Ob 29 (.bin .add (.t 28) (Ci 1)),Ob 6 (.mov (.t 29))]))))))))
 (.region [Ob 17 (.mov (.t 5)),Ob 18 (.bin .add (.t 17) (Ci 1)),Ob 5 (.mov (.t 18))]))))))
 (.seq (.region [Ob 4 (.mov (Ci 0))])
 (.ret)))))
def r32 : List Res := [.t 4]
def a32 : AFn := ⟨2, c32, r32,.v⟩

def c33 : ACode := .seq (.region [Ob 0 (.new (.agg [(.sl [] .tight), (.int .i64 0)]) 2),Ob 1 (.mov (.c (.sl [] .tight)))])
 (.seq (.region [Ob 2 (.lit false 3 1 [(Ci 5), (Ci 3)]),Ob 3 (.build [(.sl [] .tight), (.int .i64 0)] [(0, 1, (.t 2)), (1, 1, (Ci 10))]),Ob 4 (.build [(.int .i64 0), (.int .i64 0), (.int .i64 0), (.int .i64 0), (.int .i64 0)] [(0, 1, (Ci 1)), (2, 1, (Ci 1)), (3, 1, (Ci 1)), (4, 1, (Ci 2))]),Ob 5 (.build [(.int .i64 0), (.int .i64 0), (.int .i64 0), (.int .i64 0), (.int .i64 0)] [(0, 1, (Ci 2)), (1, 1, (Ci 1)), (2, 1, (Ci 1)), (3, 1, (Ci 2)), (4, 1, (Ci 2))]),Ob 6 (.build [(.int .i64 0), (.int .i64 0), (.int .i64 0), (.int .i64 0), (.int .i64 0)] [(0, 1, (Ci 3)), (1, 1, (Ci 5)), (2, 1, (Ci 2)), (3, 1, (Ci 1))]),Ob 7 (.build [(.int .i64 0), (.int .i64 0), (.int .i64 0), (.int .i64 0), (.int .i64 0)] [(0, 1, (Ci 4)), (1, 1, (Ci 12)), (2, 1, (Ci 1)), (3, 1, (Ci 3)), (4, 1, (Ci 3))]),Ob 8 (.build [(.int .i64 0), (.int .i64 0), (.int .i64 0), (.int .i64 0), (.int .i64 0)] [(0, 1, (Ci 5)), (1, 1, (Ci 11)), (2, 1, (Ci 2)), (3, 1, (Ci 2))]),Ob 9 (.lit false 44 5 [(.t 4), (.t 5), (.t 6), (.t 7), (.t 8)]),On (.store (.t 0) (.t 3) 2),Ob 1 (.mov (.t 9))])
 (.ret))
def r33 : List Res := [.cell 0 (some 2),.t 1]
def a33 : AFn := ⟨0, c33, r33,.v⟩

def c34 : ACode := .seq (.region [Ob 3 (.box (.t 0) 2),Ob 6 (.new (.agg [(.sl [] .tight), (.int .i64 0), (.sl [] .tight),.nilm, (.sl [] .tight)]) 5),Ob 7 (.mov (Ci 0))])
 (.seq (.seq (.region [Ob 14 (.load (.t 3) (some 2)),Ob 15 (.mov (.t 1)),Ob 16 (.call 49 [(.t 14), (.t 15)]),Ob 8 (.mov (.t 16))])
 (.seq (.region [Ob 17 (.mov (.t 8)),Ob 18 (.bin .neq (.t 17) (Ci 0))])
 (.cond (.t 18) (.seq (.region [Ob 19 (.build [(.sl [] .tight), (.int .i64 0), (.sl [] .tight),.nilm, (.sl [] .tight)] []),Ob 20 (.mov (.t 8)),On (.store (.t 6) (.t 19) 5),Ob 7 (.mov (.t 20))])
 (.ret))
 (.skip))))
 (.seq (.seq (.region [Ob 21 (.mov (.t 2)),Ob 22 (.call 50 [(.t 21)]),Ob 23 (.not (.t 22))])
 (.cond (.t 23) (.seq (.region [Ob 24 (.build [(.sl [] .tight), (.int .i64 0), (.sl [] .tight),.nilm, (.sl [] .tight)] []),On (.store (.t 6) (.t 24) 5),Ob 7 (.mov (Ci 1))])
 (.ret))
 (.skip)))
 (.seq (.region [Ob 25 (.load (.t 3) (some 2)),Ob 26 (.mkmap .i),Ob 27 (.build [(.sl [] .tight), (.int .i64 0), (.sl [] .tight),.nilm, (.sl [] .tight)] [(0, 2, (.t 25)), (3, 1, (.t 26))]),Ob 9 (.new (.agg [(.sl [] .tight), (.int .i64 0), (.sl [] .tight),.nilm, (.sl [] .tight)]) 5),On (.store (.t 9) (.t 27) 5)])
 (.seq (.seq (.region [Ob 28 (.addr (.t 9) 0),Ob 29 (.addr (.t 28) 0),Ob 30 (.load (.t 29) none),Ob 31 (.len (.t 30)),Ob 32 (.mov (Ci 0))])
 (.block 0 (.loop (.seq (.region [Ob 33 (.bin .lss (.t 32) (.t 31))])
 (.seq (.cond (.t 33) (.skip)
 (.exit 0))
 (.seq (.block 1 (.seq (.region [Ob 34 (.idx (.t 30) (.t 32) 1),Ob 35 (.load (.t 34) none),Ob 11 (.mov (.t 35))])
 (.region [Ob 36 (.addr (.t 9) 2),Ob 37 (.load (.t 36) none),Ob 38 (.lit false 3 1 [(Ci (-1))]),Ob 39 (.mov (.t 11)),Ob 40 (.call 51 [(.t 38), (.t 39)]),Ob 41 (.lit false 22 1 [(.t 40)]),Ob 42 (.app false (.t 37) (.t 41) 22 1 24),Ob 43 (.addr (.t 9) 2),On (.store (.t 43) (.t 42) 1)])))
 (.region [Ob 44 (.bin .add (.t 32) (Ci 1)),Ob 32 (.mov (.t 44))])))))))
 (.seq (.seq (.region [Ob 45 (.mov (.t 1)),Ob 46 (.call 52 [(.t 45)]),Ob 47 (.len (.t 46)),Ob 48 (.mov (Ci 0))])
 (.block 2 (.loop (.seq (.region [Ob 49 (.bin .lss (.t 48) (.t 47))])
 (.seq (.cond (.t 49) (.skip)
 (.exit 2))
 (.seq (.block 3 (.seq (.region [Ob 50 (.idx (.t 46) (.t 48) 5),Ob 51 (.load (.t 50) (some 5)),Ob 13 (.new (.agg [(.int .i64 0), (.int .i64 0), (.int .i64 0), (.int .i64 0), (.int .i64 0)]) 5),On (.store (.t 13) (.t 51) 5)])
 (.seq (.region [Ob 52 (.addr (.t 13) 1),Ob 53 (.load (.t 52) none),Ob 54 (.mov (.t 2)),Ob 55 (.bin .leq (.t 53) (.t 54))])
 (.cond (.t 55) (.region [Ob 56 (.load (.t 13) (some 5)),Ob 57 (.call 53 [(.t 9), (.t 56)])])
 (.skip)))))
 (.region [Ob 58 (.bin .add (.t 48) (Ci 1)),Ob 48 (.mov (.t 58))])))))))
 (.seq (.region [Ob 59 (.mov (.t 2)),Ob 60 (.call 54 [(.t 9), (.t 59)])])
 (.seq (.region [Ob 61 (.load (.t 9) (some 5)),On (.store (.t 6) (.t 61) 5),Ob 7 (.mov (Ci 0))])
 (.ret))))))))
def r34 : List Res := [.cell 6 (some 5),.t 7]
def a34 : AFn := ⟨3, c34, r34,.r⟩

def c35 : ACode := .seq (.region [Ob 2 (.mov (.c (.bool false)))])
 (.seq (.region [Ob 3 (.mov (.t 0)),Ob 4 (.call 55 [(.t 3), (Ci 0), (Ci 99)]),Ob 2 (.mov (.t 4))])
 (.ret))
def r35 : List Res := [.t 2]
def a35 : AFn := ⟨1, c35, r35,.v⟩

def c36 : ACode := .seq (.region [Ob 4 (.new (.agg [(.int .i64 0), (.int .i64 0), (.int .i64 0), (.int .i64 0)]) 4)])
 (.seq (.seq (.region [Ob 8 (.mov (.t 0)),Ob 9 (.addr (.t 8) 0),Ob 10 (.addr (.t 9) 3),Ob 11 (.load (.t 10) none),Ob 12 (.mov (.t 1)),Ob 13 (.mget .i .nilp true (.t 11) (.t 12)),Ob 7 (.mov (.t 13)),Ob 14 (.ext (.t 7) 0),Ob 15 (.ext (.t 7) 1),Ob 5 (.mov (.t 14)),Ob 6 (.mov (.t 15))])
 (.seq (.region [Ob 16 (.mov (.t 6))])
 (.cond (.t 16) (.seq (.region [Ob 17 (.mov (.t 5)),Ob 18 (.addr (.t 17) 0),Ob 19 (.addr (.t 18) 0),Ob 20 (.load (.t 19) (some 4)),On (.store (.t 4) (.t 20) 4)])
 (.ret))
 (.skip))))
 (.seq (.region [Ob 21 (.build [(.int .i64 0), (.int .i64 0), (.int .i64 0), (.int .i64 0)] [(0, 1, (Ci 0)), (1, 1, (Ci (-1))), (2, 1, (Ci (-1)))]),On (.store (.t 4) (.t 21) 4)])
 (.ret)))
def r36 : List Res := [.cell 4 (some 4)]
def a36 : AFn := ⟨2, c36, r36,.r⟩

def c37 : ACode := .seq (.region [Ob 3 (.mov (.t 0)),Ob 4 (.len (.t 3)),Ob 2 (.mov (.t 4))])
 (.region [Ob 5 (.mov (.t 0)),Ob 6 (.mov (.t 2)),Ob 7 (.mov (.t 2)),Ob 8 (.conv .u64 (.t 7)),Ob 9 (.call 57 [(.t 8)]),Ob 10 (.call 56 [(.t 5), (Ci 0), (.t 6), (.t 9)])])
def r37 : List Res := []
def a37 : AFn := ⟨1, c37, r37,.r⟩

def c38 : ACode := .seq (.region [Ob 2 (.mov (.c (.sl [] .tight)))])
 (.seq (.seq (.region [Ob 6 (.mov (.t 0)),Ob 7 (.len (.t 6)),Ob 8 (.bin .lss (.t 7) (Ci 2))])
 (.cond (.t 8) (.seq (.region [Ob 9 (.mov (.t 0)),Ob 2 (.mov (.t 9))])
 (.ret))
 (.skip)))
 (.seq (.seq (.region [Ob 3 (.mov (Ci 1))])
 (.block 0 (.loop (.seq (.seq (.region [Ob 10 (.mov (.t 3)),Ob 11 (.mov (.t 0)),Ob 12 (.len (.t 11)),Ob 13 (.bin .lss (.t 10) (.t 12))])
 (.cond (.t 13) (.skip)
 (.exit 0)))
 (.seq (.block 1 (.seq (.region [Ob 16 (.mov (.t 0)),Ob 17 (.mov (.t 3)),Ob 18 (.idx (.t 16) (.t 17) 1),Ob 19 (.load (.t 18) none),Ob 20 (.mov (.t 0)),Ob 21 (.mov (.t 3)),Ob 22 (.bin .sub (.t 21) (Ci 1)),Ob 23 (.idx (.t 20) (.t 22) 1),Ob 24 (.load (.t 23) none),Ob 25 (.bin .eql (.t 19) (.t 24))])
 (.cond (.t 25) (.seq (.region [Ob 26 (.mov (.t 0)),Ob 27 (.mov (.t 3)),Ob 28 (.slice (.t 26) (some (.t 27)) none 1),Ob 4 (.mov (.t 28))])
 (.seq (.seq (.region [Ob 5 (.mov (Ci 1))])
 (.block 2 (.loop (.seq (.seq (.region [Ob 29 (.mov (.t 5)),Ob 30 (.mov (.t 4)),Ob 31 (.len (.t 30)),Ob 32 (.bin .lss (.t 29) (.t 31))])
 (.cond (.t 32) (.skip)
 (.exit 2)))
 (.seq (.block 3 (.seq (.region [Ob 35 (.mov (.t 4)),Ob 36 (.mov (.t 5)),Ob 37 (.idx (.t 35) (.t 36) 1),Ob 38 (.load (.t 37) none),Ob 39 (.mov (.t 4)),Ob 40 (.mov (.t 5)),Ob 41 (.bin .sub (.t 40) (Ci 1)),Ob 42 (.idx (.t 39) (.t 41) 1),Ob 43 (.load (.t 42) none),Ob 44 (.bin .neq (.t 38) (.t 43))])
 (.cond (.t 44) (.seq (.region [Ob 45 (.mov (.t 0)),Ob 46 (.mov (.t 3)),Ob 47 (.mov (.t 4)),Ob 48 (.mov (.t 5)),Ob 49 (.idx (.t 47) (.t 48) 1),Ob 50 (.load (.t 49) none),Ob 51 (.idx (.t 45) (.t 46) 1),On (.store (.t 51) (.t 50) 1)])
 (.region [Ob 52 (.mov (.t 3)),Ob 53 (.bin .add (.t 52) (Ci 1)),Ob 3 (.mov (.t 53))]))
 (.skip))))
 (.region [Ob 33 (.mov (.t 5)),Ob 34 (.bin .add (.t 33) (Ci 1)),Ob 5 (.mov (.t 34))]))))))
 (.seq (.region [Ob 54 (.mov (.t 0)),Ob 55 (.mov (.t 3)),Ob 56 (.slice (.t 54) (some (.t 55)) none 1),On (.clr (.t 56) (.int .i64 0) 1)])
 (.seq (.region [Ob 57 (.mov (.t 0)),Ob 58 (.mov (.t 3)),Ob 59 (.slice (.t 57) none (some (.t 58)) 1),Ob 2 (.mov (.t 59))])
 (.ret)))))
 (.skip))))
 (.region [Ob 14 (.mov (.t 3)),Ob 15 (.bin .add (.t 14) (Ci 1)),Ob 3 (.mov (.t 15))]))))))
 (.seq (.region [Ob 60 (.mov (.t 0)),Ob 2 (.mov (.t 60))])
 (.ret))))
def r38 : List Res := [.t 2]
def a38 : AFn := ⟨1, c38, r38,.r⟩

def c39 : ACode := .seq (.region [Ob 2 (.mov (.c (.bool false)))])
 (.seq (.region [Ob 3 (.mov (.t 0)),Ob 4 (.call 55 [(.t 3), (Ci 1), (Ci 12)]),Ob 2 (.mov (.t 4))])
 (.ret))
def r39 : List Res := [.t 2]
def a39 : AFn := ⟨1, c39, r39,.v⟩

def c40 : ACode := .seq (.region [Ob 2 (.box (.t 0) 1),Ob 3 (.box (.t 1) 1),Ob 4 (.new (.int .i64 0) 1),Ob 5 (.new (.int .i64 0) 1),Ob 6 (.new (.bool false) 1)])
 (.seq (.seq (.region [Ob 9 (.load (.t 2) none),Ob 10 (.load (.t 3) none),Ob 11 (.call 58 [(.t 9), (.t 10)])])
 (.block 0 (.range (.t 11) [12, 13] (.seq (.region [Ob 7 (.mov (.t 12))])
 (.region [Ob 8 (.mov (.t 13))]))
 (.block 1 (.seq (.seq (.region [Ob 14 (.load (.t 2) none),Ob 15 (.addr (.t 14) 0),Ob 16 (.addr (.t 15) 2),Ob 17 (.load (.t 16) none),Ob 18 (.mov (.t 7)),Ob 19 (.idx (.t 17) (.t 18) 1),Ob 20 (.load (.t 19) none),Ob 21 (.mov (.t 8)),Ob 22 (.load (.t 3) none),Ob 23 (.call 59 [(.t 20), (.t 21), (.t 22)]),Ob 24 (.not (.t 23))])
 (.cond (.t 24) (.seq (.region [Ob 25 (.mov (.t 7)),Ob 26 (.mov (.t 8)),On (.store (.t 4) (.t 25) 1),On (.store (.t 5) (.t 26) 1),On (.store (.t 6) (.c (.bool true)) 1)])
 (.ret))
 (.skip)))
 (.seq (.region [Ob 27 (.load (.t 6) none),Ob 28 (.not (.t 27))])
 (.cond (.t 28) (.region [Ob 29 (.mov (.t 7)),Ob 30 (.mov (.t 8)),On (.store (.t 4) (.t 29) 1),On (.store (.t 5) (.t 30) 1),On (.store (.t 6) (.c (.bool true)) 1)])
 (.skip))))))))
 (.seq (.regionD [Ob 31 (.load (.t 4) none),Ob 32 (.load (.t 5) none),Ob 33 (.load (.t 6) none),On (.store (.t 4) (.t 31) 1),On (.store (.t 5) (.t 32) 1),On (.store (.t 6) (.t 33) 1)] [(5, 4), (6, 4), (6, 5)])
 (.ret)))
def r40 : List Res := [.cell 4 none,.cell 5 none,.cell 6 none]
def a40 : AFn := ⟨2, c40, r40,.r⟩

def c41 : ACode := .seq (.region [Ob 4 (.mov (.c (.bool false)))])
 (.seq (.region [Ob 5 (.mov (.t 1)),Ob 6 (.bin .geq (.t 5) (Ci 0)),Ob 7 (.mov (.t 6)),Og 8 7 true (.mov (.t 1)),Og 9 7 true (.mov (.t 0)),Og 10 7 true (.len (.t 9)),Og 11 7 true (.bin .lss (.t 8) (.t 10)),Ob 12 (.pick (.t 7) (.t 11) (.c (.bool false))),Ob 13 (.mov (.t 12)),Og 14 13 true (.mov (.t 0)),Og 15 13 true (.mov (.t 1)),Og 16 13 true (.idx (.t 14) (.t 15) 1),Og 17 13 true (.load (.t 16) none),Og 18 13 true (.bin .eql (.t 17) (Ci (-1))),Ob 19 (.pick (.t 13) (.t 18) (.c (.bool false))),Ob 4 (.mov (.t 19))])
 (.ret))
def r41 : List Res := [.t 4]
def a41 : AFn := ⟨2, c41, r41,.v⟩

def c42 : ACode := .seq (.region [Ob 3 (.box (.t 1) 1),Ob 4 (.mov (Ci 0))])
 (.seq (.region [Ob 5 (.new (.int .i64 0) 1),Ob 6 (.new (.int .i64 0) 1),Ob 7 (.new (.int .i64 0) 1),On (.store (.t 5) (Ci 0) 1),On (.store (.t 6) (Ci (-1)) 1),On (.store (.t 7) (Ci 0) 1)])
 (.seq (.seq (.region [Ob 10 (.mov (.t 0)),Ob 11 (.load (.t 3) none),Ob 12 (.call 58 [(.t 10), (.t 11)])])
 (.block 0 (.range (.t 12) [13, 14] (.seq (.region [Ob 8 (.mov (.t 13))])
 (.region [Ob 9 (.mov (.t 14))]))
 (.block 1 (.seq (.region [Ob 15 (.mov (.t 8)),Ob 16 (.load (.t 6) none),Ob 17 (.bin .neq (.t 15) (.t 16)),Ob 18 (.mov (.t 17)),Og 19 18 false (.mov (.t 9)),Og 20 18 false (.load (.t 7) none),Og 21 18 false (.bin .geq (.t 19) (.t 20)),Ob 22 (.pick (.t 18) (.c (.bool true)) (.t 21))])
 (.cond (.t 22) (.regionD [Ob 23 (.load (.t 5) none),Ob 24 (.bin .add (.t 23) (Ci 1)),Ob 25 (.mov (.t 8)),Ob 26 (.mov (.t 9)),Ob 27 (.load (.t 3) none),Ob 28 (.bin .add (.t 26) (.t 27)),On (.store (.t 5) (.t 24) 1),On (.store (.t 6) (.t 25) 1),On (.store (.t 7) (.t 28) 1)] [(3, 5), (3, 6)])
 (.skip)))))))
 (.seq (.region [Ob 29 (.load (.t 5) none),Ob 4 (.mov (.t 29))])
 (.ret))))
def r42 : List Res := [.t 4]
def a42 : AFn := ⟨2, c42, r42,.r⟩

def c43 : ACode := .seq (.region [Ob 6 (.mov (.c (.bool false)))])
 (.seq (.region [Ob 7 (.mov (.t 0)),Ob 8 (.mov (.t 1)),Ob 9 (.bin .geq (.t 7) (.t 8)),Ob 10 (.mov (.t 9)),Og 11 10 true (.mov (.t 0)),Og 12 10 true (.mov (.t 2)),Og 13 10 true (.bin .leq (.t 11) (.t 12)),Ob 14 (.pick (.t 10) (.t 13) (.c (.bool false))),Ob 6 (.mov (.t 14))])
 (.ret))
def r43 : List Res := [.t 6]
def a43 : AFn := ⟨3, c43, r43,.v⟩

def c44 : ACode := .seq (.region [Ob 1 (.box (.t 0) 2),Ob 2 (.mov (.c (.bool false)))])
 (.seq (.region [Ob 3 (.addr (.t 1) 0),Ob 4 (.load (.t 3) none),Ob 5 (.len (.t 4)),Ob 6 (.call 55 [(.t 5), (Ci 1), (Ci 6)]),Ob 7 (.mov (.t 6)),Og 8 7 true (.addr (.t 1) 0),Og 9 7 true (.load (.t 8) none),Og 10 7 true (.call 45 [(.t 9), (.c (.fn 39 [] []))]),Ob 11 (.pick (.t 7) (.t 10) (.c (.bool false))),Ob 12 (.mov (.t 11)),Og 13 12 true (.addr (.t 1) 1),Og 14 12 true (.load (.t 13) none),Og 15 12 true (.call 55 [(.t 14), (Ci 1), (Ci 600)]),Ob 16 (.pick (.t 12) (.t 15) (.c (.bool false))),Ob 2 (.mov (.t 16))])
 (.ret))
def r44 : List Res := [.t 2]
def a44 : AFn := ⟨1, c44, r44,.v⟩

def c45 : ACode := .seq (.region [Ob 3 (.box (.t 1) 1),Ob 4 (.mov (.c (.bool false)))])
 (.seq (.region [Ob 5 (.mov (.t 0)),Ob 6 (.clo 61 [] [(.t 3)]),Ob 7 (.call 60 [(.t 5), (.t 6)]),Ob 8 (.not (.t 7)),Ob 4 (.mov (.t 8))])
 (.ret))
def r45 : List Res := [.t 4]
def a45 : AFn := ⟨2, c45, r45,.v⟩

def c46 : ACode := .seq (.region [Ob 4 (.mov (.c (.sl [] .tight))),Ob 5 (.mov (.c (.bool false)))])
 (.seq (.region [Ob 12 (.mov (.t 1)),Ob 13 (.len (.t 12)),Ob 14 (.bin .shl (Ci 1) (.t 13)),Ob 15 (.make (.agg [(.int .i64 0), (.int .i64 0), (.int .i64 0)]) 106 3 24 (.t 14) (.t 14)),Ob 6 (.mov (.t 15))])
 (.seq (.seq (.region [Ob 7 (.mov (Ci 1))])
 (.block 0 (.loop (.seq (.seq (.region [Ob 16 (.mov (.t 7)),Ob 17 (.mov (.t 6)),Ob 18 (.len (.t 17)),Ob 19 (.bin .lss (.t 16) (.t 18))])
 (.cond (.t 19) (.skip)
 (.exit 0)))
 (.seq (.block 1 (.seq (.region [Ob 22 (.mov (.t 6)),Ob 23 (.mov (.t 7)),Ob 24 (.mov (.t 0)),Ob 25 (.len (.t 24)),Ob 26 (.idx (.t 22) (.t 23) 3),Ob 27 (.addr (.t 26) 0),Ob 28 (.addr (.t 27) 0),On (.store (.t 28) (.t 25) 1)])
 (.seq (.region [Ob 29 (.mov (.t 1)),Ob 30 (.len (.t 29)),Ob 31 (.mov (Ci 0))])
 (.block 2 (.loop (.seq (.region [Ob 32 (.bin .lss (.t 31) (.t 30))])
 (.seq (.cond (.t 32) (.skip)
 (.exit 2))
 (.seq (.block 3 (.seq (.region [Ob 33 (.mov (.t 31)),Ob 34 (.idx (.t 29) (.t 31) 1),Ob 35 (.load (.t 34) none),Ob 8 (.mov (.t 33)),Ob 9 (.mov (.t 35))])
 (.seq (.seq (.region [Ob 36 (.mov (.t 7)),Ob 37 (.mov (.t 8)),Ob 38 (.bin .shr (.t 36) (.t 37)),Ob 39 (.bin .and (.t 38) (Ci 1)),Ob 40 (.bin .eql (.t 39) (Ci 0))])
 (.cond (.t 40) (.exit 3)
 (.skip)))
 (.seq (.region [Ob 41 (.mov (.t 6)),Ob 42 (.mov (.t 7)),Ob 43 (.mov (.t 8)),Ob 44 (.bin .shl (Ci 1) (.t 43)),Ob 45 (.bin .andNot (.t 42) (.t 44)),Ob 46 (.idx (.t 41) (.t 45) 3),Ob 47 (.load (.t 46) (some 3)),Ob 10 (.new (.agg [(.int .i64 0), (.int .i64 0), (.int .i64 0)]) 3),On (.store (.t 10) (.t 47) 3)])
 (.seq (.region [Ob 48 (.mov (.t 0)),Ob 49 (.addr (.t 10) 0),Ob 50 (.load (.t 49) (some 2)),Ob 51 (.mov (.t 9)),Ob 52 (.call 62 [(.t 48), (.t 50), (.t 51)]),Ob 11 (.new (.agg [(.int .i64 0), (.int .i64 0)]) 2),On (.store (.t 11) (.t 52) 2)])
 (.seq (.region [Ob 53 (.load (.t 11) (some 2)),Ob 54 (.mov (.t 6)),Ob 55 (.mov (.t 7)),Ob 56 (.idx (.t 54) (.t 55) 3),Ob 57 (.addr (.t 56) 0),Ob 58 (.load (.t 57) (some 2)),Ob 59 (.call 63 [(.t 53), (.t 58)])])
 (.cond (.t 59) (.region [Ob 60 (.mov (.t 6)),Ob 61 (.mov (.t 7)),Ob 62 (.load (.t 11) (some 2)),Ob 63 (.mov (.t 8)),Ob 64 (.build [(.int .i64 0), (.int .i64 0), (.int .i64 0)] [(0, 2, (.t 62)), (2, 1, (.t 63))]),Ob 65 (.idx (.t 60) (.t 61) 3),On (.store (.t 65) (.t 64) 3)])
 (.skip))))))))
 (.region [Ob 66 (.bin .add (.t 31) (Ci 1)),Ob 31 (.mov (.t 66))])))))))))
 (.region [Ob 20 (.mov (.t 7)),Ob 21 (.bin .add (.t 20) (Ci 1)),Ob 7 (.mov (.t 21))]))))))
 (.seq (.seq (.region [Ob 67 (.mov (.t 6)),Ob 68 (.mov (.t 6)),Ob 69 (.len (.t 68)),Ob 70 (.bin .sub (.t 69) (Ci 1)),Ob 71 (.idx (.t 67) (.t 70) 3),Ob 72 (.addr (.t 71) 0),Ob 73 (.addr (.t 72) 0),Ob 74 (.load (.t 73) none),Ob 75 (.mov (.t 0)),Ob 76 (.len (.t 75)),Ob 77 (.bin .eql (.t 74) (.t 76))])
 (.cond (.t 77) (.seq (.region [Ob 4 (.mov (.c (.sl [] .tight))),Ob 5 (.mov (.c (.bool false)))])
 (.ret))
 (.skip)))
 (.seq (.region [Ob 78 (.mov (.t 6)),Ob 79 (.mov (.t 1)),Ob 80 (.len (.t 79)),Ob 81 (.call 64 [(.t 78), (.t 80)]),Ob 4 (.mov (.t 81)),Ob 5 (.mov (.c (.bool true)))])
 (.ret)))))
def r46 : List Res := [.t 4,.t 5]
def a46 : AFn := ⟨2, c46, r46,.v⟩

def c47 : ACode := .seq (.region [Ob 4 (.mov (.c (.bool false)))])
 (.seq (.seq (.region [Ob 7 (.mov (.t 1)),Ob 8 (.len (.t 7)),Ob 9 (.bin .eql (.t 8) (Ci 0))])
 (.cond (.t 9) (.seq (.region [Ob 4 (.mov (.c (.bool true)))])
 (.ret))
 (.skip)))
 (.seq (.seq (.region [Ob 5 (.mov (Ci 0))])
 (.block 0 (.loop (.seq (.seq (.region [Ob 10 (.mov (.t 5)),Ob 11 (.mov (.t 0)),Ob 12 (.len (.t 11)),Ob 13 (.bin .lss (.t 10) (.t 12))])
 (.cond (.t 13) (.skip)
 (.exit 0)))
 (.seq (.block 1 (.seq (.region [Ob 16 (.mov (.t 0)),Ob 17 (.mov (.t 5)),Ob 18 (.idx (.t 16) (.t 17) 1),Ob 19 (.load (.t 18) none),Ob 20 (.mov (.t 1)),Ob 21 (.idx (.t 20) (Ci 0) 1),Ob 22 (.load (.t 21) none),Ob 23 (.bin .geq (.t 19) (.t 22)),Ob 24 (.mov (.t 23)),Og 25 24 true (.mov (.t 0)),Og 26 24 true (.mov (.t 5)),Og 27 24 true (.slice (.t 25) none (some (.t 26)) 1),Og 28 24 true (.mov (.t 0)),Og 29 24 true (.mov (.t 5)),Og 30 24 true (.idx (.t 28) (.t 29) 1),Og 31 24 true (.load (.t 30) none),Og 32 24 true (.call 65 [(.t 27), (.t 31)]),Og 33 24 true (.not (.t 32)),Ob 34 (.pick (.t 24) (.t 33) (.c (.bool false)))])
 (.cond (.t 34) (.seq (.region [Ob 35 (.lit false 3 1 []),Ob 36 (.mov (.t 0)),Ob 37 (.app0 (.t 35) (.t 36) 3 1 8),Ob 6 (.mov (.t 37))])
 (.seq (.region [Ob 38 (.mov (.t 6)),Ob 39 (.mov (.t 5)),Ob 40 (.idx (.t 38) (.t 39) 1),Ob 41 (.load (.t 40) none),Ob 42 (.mov (.t 1)),Ob 43 (.idx (.t 42) (Ci 0) 1),Ob 44 (.load (.t 43) none),Ob 45 (.bin .sub (.t 41) (.t 44)),Ob 46 (.idx (.t 38) (.t 39) 1),On (.store (.t 46) (.t 45) 1)])
 (.seq (.region [Ob 47 (.mov (.t 6)),Ob 48 (.mov (.t 1)),Ob 49 (.slice (.t 48) (some (Ci 1)) none 1),Ob 50 (.call 47 [(.t 47), (.t 49)])])
 (.cond (.t 50) (.seq (.region [Ob 4 (.mov (.c (.bool true)))])
 (.ret))
 (.skip)))))
 (.skip))))
 (.region [Ob 14 (.mov (.t 5)),Ob 15 (.bin .add (.t 14) (Ci 1)),Ob 5 (.mov (.t 15))]))))))
 (.seq (.region [Ob 4 (.mov (.c (.bool false)))])
 (.ret))))
def r47 : List Res := [.t 4]
def a47 : AFn := ⟨2, c47, r47,.v⟩

def c48 : ACode := .seq (.region [Ob 1 (.box (.t 0) 5),Ob 2 (.mov (.c (.bool false)))])
 (.seq (.seq (.region [Ob 3 (.addr (.t 1) 0),Ob 4 (.load (.t 3) none),Ob 5 (.call 43 [(.t 4), (Ci 0), (Ci 99)]),Ob 6 (.not (.t 5)),Ob 7 (.mov (.t 6)),Og 8 7 false (.addr (.t 1) 1),Og 9 7 false (.load (.t 8) none),Og 10 7 false (.call 43 [(.t 9), (Ci 0), (Ci 9999)]),Og 11 7 false (.not (.t 10)),Ob 12 (.pick (.t 7) (.c (.bool true)) (.t 11)),Ob 13 (.mov (.t 12)),Og 14 13 false (.addr (.t 1) 3),Og 15 13 false (.load (.t 14) none),Og 16 13 false (.call 43 [(.t 15), (Ci 0), (Ci 99)]),Og 17 13 false (.not (.t 16)),Ob 18 (.pick (.t 13) (.c (.bool true)) (.t 17))])
 (.cond (.t 18) (.seq (.region [Ob 2 (.mov (.c (.bool false)))])
 (.ret))
 (.skip)))
 (.seq (.seq (.region [Ob 19 (.addr (.t 1) 2),Ob 20 (.load (.t 19) none),Ob 21 (.bin .eql (.t 20) (Ci 1))])
 (.cond (.t 21) (.seq (.region [Ob 22 (.addr (.t 1) 4),Ob 23 (.load (.t 22) none),Ob 24 (.call 43 [(.t 23), (Ci 1), (Ci 12)]),Ob 2 (.mov (.t 24))])
 (.ret))
 (.skip)))
 (.seq (.region [Ob 25 (.addr (.t 1) 2),Ob 26 (.load (.t 25) none),Ob 27 (.bin .eql (.t 26) (Ci 2)),Ob 28 (.mov (.t 27)),Og 29 28 false (.addr (.t 1) 2),Og 30 28 false (.load (.t 29) none),Og 31 28 false (.bin .eql (.t 30) (Ci 3)),Ob 32 (.pick (.t 28) (.c (.bool true)) (.t 31)),Ob 33 (.mov (.t 32)),Og 34 33 true (.addr (.t 1) 4),Og 35 33 true (.load (.t 34) none),Og 36 33 true (.bin .eql (.t 35) (Ci 0)),Ob 37 (.pick (.t 33) (.t 36) (.c (.bool false))),Ob 2 (.mov (.t 37))])
 (.ret))))
def r48 : List Res := [.t 2]
def a48 : AFn := ⟨1, c48, r48,.v⟩

def c49 : ACode := .seq (.region [Ob 2 (.box (.t 0) 2),Ob 4 (.mov (Ci 0))])
 (.seq (.block 0 (.seq (.region [Ob 6 (.load (.t 2) (some 2)),Ob 7 (.call 44 [(.t 6)]),Ob 8 (.not (.t 7)),Ob 5 (.mov (.t 8))])
 (.cond (.t 5) (.seq (.region [Ob 4 (.mov (Ci 40))])
 (.ret))
 (.seq (.region [Ob 10 (.mov (.t 1)),Ob 11 (.call 66 [(.t 10)]),Ob 12 (.not (.t 11)),Ob 13 (.mov (.t 12)),Og 14 13 false (.mov (.t 1)),Og 15 13 false (.call 67 [(.t 14)]),Ob 16 (.pick (.t 13) (.c (.bool true)) (.t 15)),Ob 9 (.mov (.t 16))])
 (.cond (.t 9) (.seq (.region [Ob 4 (.mov (Ci 41))])
 (.ret))
 (.skip))))))
 (.seq (.region [Ob 4 (.mov (Ci 0))])
 (.ret)))
def r49 : List Res := [.t 4]
def a49 : AFn := ⟨2, c49, r49,.v⟩

def c50 : ACode := .seq (.region [Ob 2 (.mov (.c (.bool false)))])
 (.seq (.region [Ob 3 (.mov (.t 0)),Ob 4 (.call 55 [(.t 3), (Ci 0), (Ci 9999)]),Ob 2 (.mov (.t 4))])
 (.ret))
def r50 : List Res := [.t 2]
def a50 : AFn := ⟨1, c50, r50,.v⟩

def c51 : ACode := .seq (.region [Ob 4 (.mov (.c (.sl [] .tight)))])
 (.seq (.seq (.region [Ob 9 (.mov (.t 1)),Ob 10 (.bin .lss (.t 9) (Ci 0))])
 (.cond (.t 10) (.region [Ob 11 (.bad),On (.bad)])
 (.skip)))
 (.seq (.region [Ob 13 (.mov (.t 0)),Ob 14 (.len (.t 13)),Ob 15 (.conv .u64 (.t 14)),Ob 16 (.mov (.t 1)),Ob 17 (.conv .u64 (.t 16)),Ob 18 (.call 68 [(.t 15), (.t 17)]),Ob 12 (.mov (.t 18)),Ob 19 (.ext (.t 12) 0),Ob 20 (.ext (.t 12) 1),Ob 5 (.mov (.t 19)),Ob 6 (.mov (.t 20))])
 (.seq (.seq (.region [Ob 21 (.mov (.t 5)),Ob 22 (.bin .gtr (.t 21) (.c (.int .u64 0))),Ob 23 (.mov (.t 22)),Og 24 23 false (.mov (.t 6)),Og 25 23 false (.bin .gtr (.t 24) (.c (.int .u64 9223372036854775807))),Ob 26 (.pick (.t 23) (.c (.bool true)) (.t 25))])
 (.cond (.t 26) (.region [Ob 27 (.bad),On (.bad)])
 (.skip)))
 (.seq (.region [Ob 28 (.mov (.t 6)),Ob 29 (.conv .i64 (.t 28)),Ob 30 (.make (.int .i64 0) 3 1 8 (.t 29) (.t 29)),Ob 7 (.mov (.t 30))])
 (.seq (.region [Ob 31 (.mov (.t 7)),Ob 32 (.mov (.t 0)),Ob 33 (.cpy (.t 31) (.t 32) 1),Ob 8 (.mov (.t 33))])
 (.seq (.block 0 (.loop (.seq (.seq (.region [Ob 34 (.mov (.t 8)),Ob 35 (.mov (.t 7)),Ob 36 (.len (.t 35)),Ob 37 (.bin .lss (.t 34) (.t 36))])
 (.cond (.t 37) (.skip)
 (.exit 0)))
 (.block 1 (.region [Ob 38 (.mov (.t 8)),Ob 39 (.mov (.t 7)),Ob 40 (.mov (.t 8)),Ob 41 (.slice (.t 39) (some (.t 40)) none 1),Ob 42 (.mov (.t 7)),Ob 43 (.mov (.t 8)),Ob 44 (.slice (.t 42) none (some (.t 43)) 1),Ob 45 (.cpy (.t 41) (.t 44) 1),Ob 46 (.bin .add (.t 38) (.t 45)),Ob 8 (.mov (.t 46))])))))
 (.seq (.region [Ob 47 (.mov (.t 7)),Ob 4 (.mov (.t 47))])
 (.ret))))))))
def r51 : List Res := [.t 4]
def a51 : AFn := ⟨2, c51, r51,.o⟩

def c52 : ACode := .seq (.region [Ob 2 (.mov (.c (.sl [] .tight)))])
 (.seq (.region [Ob 3 (.mov (.t 0)),Ob 4 (.call 69 [(.t 3)]),Ob 0 (.mov (.t 4))])
 (.seq (.region [Ob 5 (.mov (.t 0)),Ob 6 (.call 70 [(.t 5), (.c (.fn 71 [] []))])])
 (.seq (.region [Ob 7 (.mov (.t 0)),Ob 8 (.call 74 [(.t 7)]),Ob 2 (.mov (.t 8))])
 (.ret))))
def r52 : List Res := [.t 2]
def a52 : AFn := ⟨1, c52, r52,.r⟩

def c53 : ACode := .seq (.region [Ob 3 (.box (.t 1) 5)])
 (.seq (.region [Ob 4 (.mov (.t 0)),Ob 5 (.addr (.t 3) 1),Ob 6 (.load (.t 5) none),Ob 7 (.call 54 [(.t 4), (.t 6)])])
 (.seq (.region [Ob 8 (.addr (.t 3) 2),Ob 9 (.load (.t 8) none)])
 (.block 0 (.seq (.region [Ob 11 (.bin .eql (.t 9) (Ci 1)),Ob 10 (.mov (.t 11))])
 (.cond (.t 10) (.region [Ob 12 (.mov (.t 0)),Ob 13 (.load (.t 3) (some 5)),Ob 14 (.call 75 [(.t 12), (.t 13)])])
 (.seq (.region [Ob 16 (.bin .eql (.t 9) (Ci 2)),Ob 15 (.mov (.t 16))])
 (.cond (.t 15) (.region [Ob 17 (.mov (.t 0)),Ob 18 (.addr (.t 3) 3),Ob 19 (.load (.t 18) none),Ob 20 (.call 76 [(.t 17), (.t 19)])])
 (.seq (.region [Ob 22 (.bin .eql (.t 9) (Ci 3)),Ob 21 (.mov (.t 22))])
 (.cond (.t 21) (.region [Ob 23 (.mov (.t 0)),Ob 24 (.addr (.t 3) 3),Ob 25 (.load (.t 24) none),Ob 26 (.call 77 [(.t 23), (.t 25)])])
 (.skip))))))))))
def r53 : List Res := []
def a53 : AFn := ⟨2, c53, r53,.r⟩

def c54 : ACode := .rngm (.t 9) 10 11 12 13 [Ob 6 (.mov (.t 0)), Ob 7 (.addr (.t 6) 0), Ob 8 (.addr (.t 7) 3), Ob 9 (.load (.t 8) none)] [Ob 14 (.ext (.t 13) 1), Ob 5 (.mov (.t 14))] 0 1 (.seq (.region [Ob 15 (.mov (.t 5)),Ob 16 (.addr (.t 15) 0),Ob 17 (.addr (.t 16) 0),Ob 18 (.addr (.t 17) 0),Ob 19 (.load (.t 18) none),Ob 20 (.bin .eql (.t 19) (Ci 2)),Ob 21 (.mov (.t 20)),Og 22 21 true (.mov (.t 5)),Og 23 21 true (.addr (.t 22) 0),Og 24 21 true (.addr (.t 23) 4),Og 25 21 true (.load (.t 24) none),Og 26 21 true (.mov (.t 0)),Og 27 21 true (.addr (.t 26) 0),Og 28 21 true (.addr (.t 27) 0),Og 29 21 true (.addr (.t 28) 1),Og 30 21 true (.load (.t 29) none),Og 31 21 true (.bin .add (.t 25) (.t 30)),Og 32 21 true (.mov (.t 1)),Og 33 21 true (.bin .leq (.t 31) (.t 32)),Ob 34 (.pick (.t 21) (.t 33) (.c (.bool false)))])
 (.cond (.t 34) (.region [Ob 35 (.mov (.t 0)),Ob 36 (.mov (.t 5)),Ob 37 (.call 78 [(.t 35), (.t 36), (Ci 4)])])
 (.skip))) [5, 14, 15, 16, 17, 18, 19, 20, 21, 22, 23, 24, 25, 26, 27, 28, 29, 30, 31, 32, 33, 34, 35, 36, 37]
def r54 : List Res := []
def a54 : AFn := ⟨2, c54, r54,.r⟩

def c55 : ACode := .seq (.region [Ob 6 (.mov (.c (.bool false)))])
 (.seq (.region [Ob 7 (.mov (.t 1)),Ob 8 (.mov (.t 0)),Ob 9 (.bin .leq (.t 7) (.t 8)),Ob 10 (.mov (.t 9)),Og 11 10 true (.mov (.t 0)),Og 12 10 true (.mov (.t 2)),Og 13 10 true (.bin .leq (.t 11) (.t 12)),Ob 14 (.pick (.t 10) (.t 13) (.c (.bool false))),Ob 6 (.mov (.t 14))])
 (.ret))
def r55 : List Res := [.t 6]
def a55 : AFn := ⟨3, c55, r55,.v⟩

def c56 : ACode := .seq (.region [Ob 8 (.mov (.c (.bool true)))])
 (.seq (.region [Ob 9 (.mov (.c (.bool true)))])
 (.block 0 (.loop (.block 1 (.seq (.region [Ob 19 (.mov (.t 2)),Ob 20 (.mov (.t 1)),Ob 21 (.bin .sub (.t 19) (.t 20)),Ob 10 (.mov (.t 21))])
 (.seq (.seq (.region [Ob 22 (.mov (.t 10)),Ob 23 (.bin .leq (.t 22) (Ci 12))])
 (.cond (.t 23) (.seq (.region [Ob 24 (.mov (.t 0)),Ob 25 (.mov (.t 1)),Ob 26 (.mov (.t 2)),Ob 27 (.call 79 [(.t 24), (.t 25), (.t 26)])])
 (.ret))
 (.skip)))
 (.seq (.seq (.region [Ob 28 (.mov (.t 3)),Ob 29 (.bin .eql (.t 28) (Ci 0))])
 (.cond (.t 29) (.seq (.region [Ob 30 (.mov (.t 0)),Ob 31 (.mov (.t 1)),Ob 32 (.mov (.t 2)),Ob 33 (.call 80 [(.t 30), (.t 31), (.t 32)])])
 (.ret))
 (.skip)))
 (.seq (.seq (.region [Ob 34 (.mov (.t 8)),Ob 35 (.not (.t 34))])
 (.cond (.t 35) (.seq (.region [Ob 36 (.mov (.t 0)),Ob 37 (.mov (.t 1)),Ob 38 (.mov (.t 2)),Ob 39 (.call 81 [(.t 36), (.t 37), (.t 38)])])
 (.region [Ob 40 (.mov (.t 3)),Ob 41 (.bin .sub (.t 40) (Ci 1)),Ob 3 (.mov (.t 41))]))
 (.skip)))
 (.seq (.region [Ob 43 (.mov (.t 0)),Ob 44 (.mov (.t 1)),Ob 45 (.mov (.t 2)),Ob 46 (.call 82 [(.t 43), (.t 44), (.t 45)]),Ob 42 (.mov (.t 46)),Ob 47 (.ext (.t 42) 0),Ob 48 (.ext (.t 42) 1),Ob 11 (.mov (.t 47)),Ob 12 (.mov (.t 48))])
 (.seq (.seq (.region [Ob 49 (.mov (.t 12)),Ob 50 (.bin .eql (.t 49) (Ci 2))])
 (.cond (.t 50) (.seq (.region [Ob 51 (.mov (.t 0)),Ob 52 (.mov (.t 1)),Ob 53 (.mov (.t 2)),Ob 54 (.call 83 [(.t 51), (.t 52), (.t 53)])])
 (.seq (.region [Ob 55 (.mov (.t 2)),Ob 56 (.bin .sub (.t 55) (Ci 1)),Ob 57 (.mov (.t 11)),Ob 58 (.mov (.t 1)),Ob 59 (.bin .sub (.t 57) (.t 58)),Ob 60 (.bin .sub (.t 56) (.t 59)),Ob 11 (.mov (.t 60))])
 (.region [Ob 12 (.mov (Ci 1))])))
 (.skip)))
 (.seq (.seq (.region [Ob 61 (.mov (.t 8)),Ob 62 (.mov (.t 61)),Og 63 62 true (.mov (.t 9)),Ob 64 (.pick (.t 62) (.t 63) (.c (.bool false))),Ob 65 (.mov (.t 64)),Og 66 65 true (.mov (.t 12)),Og 67 65 true (.bin .eql (.t 66) (Ci 1)),Ob 68 (.pick (.t 65) (.t 67) (.c (.bool false)))])
 (.cond (.t 68) (.seq (.region [Ob 69 (.mov (.t 0)),Ob 70 (.mov (.t 1)),Ob 71 (.mov (.t 2)),Ob 72 (.call 84 [(.t 69), (.t 70), (.t 71)])])
 (.cond (.t 72) (.ret)
 (.skip)))
 (.skip)))
 (.seq (.seq (.region [Ob 73 (.mov (.t 1)),Ob 74 (.bin .gtr (.t 73) (Ci 0)),Ob 75 (.mov (.t 74)),Og 76 75 true (.mov (.t 0)),Og 77 75 true (.mov (.t 1)),Og 78 75 true (.bin .sub (.t 77) (Ci 1)),Og 79 75 true (.idx (.t 76) (.t 78) 1),Og 80 75 true (.load (.t 79) none),Og 81 75 true (.mov (.t 0)),Og 82 75 true (.mov (.t 11)),Og 83 75 true (.idx (.t 81) (.t 82) 1),Og 84 75 true (.load (.t 83) none),Og 85 75 true (.call 85 [(.t 80), (.t 84)]),Og 86 75 true (.not (.t 85)),Ob 87 (.pick (.t 75) (.t 86) (.c (.bool false)))])
 (.cond (.t 87) (.seq (.region [Ob 88 (.mov (.t 0)),Ob 89 (.mov (.t 1)),Ob 90 (.mov (.t 2)),Ob 91 (.mov (.t 11)),Ob 92 (.call 86 [(.t 88), (.t 89), (.t 90), (.t 91)]),Ob 13 (.mov (.t 92))])
 (.seq (.region [Ob 93 (.mov (.t 13)),Ob 1 (.mov (.t 93))])
 (.exit 1)))
 (.skip)))
 (.seq (.region [Ob 95 (.mov (.t 0)),Ob 96 (.mov (.t 1)),Ob 97 (.mov (.t 2)),Ob 98 (.mov (.t 11)),Ob 99 (.call 87 [(.t 95), (.t 96), (.t 97), (.t 98)]),Ob 94 (.mov (.t 99)),Ob 100 (.ext (.t 94) 0),Ob 101 (.ext (.t 94) 1),Ob 14 (.mov (.t 100)),Ob 15 (.mov (.t 101))])
 (.seq (.region [Ob 102 (.mov (.t 15)),Ob 9 (.mov (.t 102))])
 (.seq (.region [Ob 103 (.mov (.t 14)),Ob 104 (.mov (.t 1)),Ob 105 (.bin .sub (.t 103) (.t 104)),Ob 106 (.mov (.t 2)),Ob 107 (.mov (.t 14)),Ob 108 (.bin .sub (.t 106) (.t 107)),Ob 16 (.mov (.t 105)),Ob 17 (.mov (.t 108))])
 (.seq (.region [Ob 109 (.mov (.t 10)),Ob 110 (.bin .quo (.t 109) (Ci 8)),Ob 18 (.mov (.t 110))])
 (.seq (.region [Ob 111 (.mov (.t 16)),Ob 112 (.mov (.t 17)),Ob 113 (.bin .lss (.t 111) (.t 112))])
 (.cond (.t 113) (.seq (.region [Ob 114 (.mov (.t 16)),Ob 115 (.mov (.t 18)),Ob 116 (.bin .geq (.t 114) (.t 115)),Ob 8 (.mov (.t 116))])
 (.seq (.region [Ob 117 (.mov (.t 0)),Ob 118 (.mov (.t 1)),Ob 119 (.mov (.t 14)),Ob 120 (.mov (.t 3)),Ob 121 (.call 56 [(.t 117), (.t 118), (.t 119), (.t 120)])])
 (.region [Ob 122 (.mov (.t 14)),Ob 123 (.bin .add (.t 122) (Ci 1)),Ob 1 (.mov (.t 123))])))
 (.seq (.region [Ob 124 (.mov (.t 17)),Ob 125 (.mov (.t 18)),Ob 126 (.bin .geq (.t 124) (.t 125)),Ob 8 (.mov (.t 126))])
 (.seq (.region [Ob 127 (.mov (.t 0)),Ob 128 (.mov (.t 14)),Ob 129 (.bin .add (.t 128) (Ci 1)),Ob 130 (.mov (.t 2)),Ob 131 (.mov (.t 3)),Ob 132 (.call 56 [(.t 127), (.t 129), (.t 130), (.t 131)])])
 (.region [Ob 133 (.mov (.t 14)),Ob 2 (.mov (.t 133))])))))))))))))))))))))
def r56 : List Res := []
def a56 : AFn := ⟨4, c56, r56,.r⟩

def c57 : ACode := .seq (.region [Ob 2 (.mov (Ci 0))])
 (.seq (.cond (.c (.bool false)) (.seq (.region [Ob 3 (.mov (.t 0)),Ob 4 (.conv .u32 (.t 3)),Ob 5 (.call 88 [(.t 4)]),Ob 2 (.mov (.t 5))])
 (.ret))
 (.skip))
 (.seq (.region [Ob 6 (.mov (.t 0)),Ob 7 (.call 89 [(.t 6)]),Ob 2 (.mov (.t 7))])
 (.ret)))
def r57 : List Res := [.t 2]
def a57 : AFn := ⟨1, c57, r57,.v⟩

def c58 : ACode := .seq (.region [Ob 2 (.box (.t 0) 1),Ob 3 (.box (.t 1) 1),Ob 4 (.mov (.c .nilf))])
 (.seq (.region [Ob 5 (.clo 90 [] [(.t 2), (.t 3)]),Ob 4 (.mov (.t 5))])
 (.ret))
def r58 : List Res := [.t 4]
def a58 : AFn := ⟨2, c58, r58,.r⟩

def c59 : ACode := .seq (.region [Ob 3 (.box (.t 0) 1),Ob 6 (.mov (.c (.bool false)))])
 (.seq (.region [Ob 10 (.clo 91 [] [(.t 3)]),Ob 7 (.mov (.t 10))])
 (.seq (.region [Ob 11 (.mov (.t 1)),Ob 12 (.bin .sub (.t 11) (Ci 1)),Ob 13 (.mov (.t 1)),Ob 14 (.mov (.t 2)),Ob 15 (.bin .add (.t 13) (.t 14)),Ob 8 (.mov (.t 12)),Ob 9 (.mov (.t 15))])
 (.seq (.region [Ob 16 (.mov (.t 7)),Ob 17 (.mov (.t 8)),Ob 18 (.callv (.t 16) [(.t 17)]),Ob 19 (.mov (.t 18)),Og 20 19 true (.mov (.t 7)),Og 21 19 true (.mov (.t 8)),Og 22 19 true (.bin .sub (.t 21) (Ci 1)),Og 23 19 true (.callv (.t 20) [(.t 22)]),Og 24 19 true (.not (.t 23)),Ob 25 (.pick (.t 19) (.t 24) (.c (.bool false))),Ob 26 (.mov (.t 25)),Og 27 26 false (.mov (.t 7)),Og 28 26 false (.mov (.t 9)),Og 29 26 false (.callv (.t 27) [(.t 28)]),Og 30 26 false (.mov (.t 29)),Og 31 30 true (.mov (.t 7)),Og 32 30 true (.mov (.t 9)),Og 33 30 true (.bin .add (.t 32) (Ci 1)),Og 34 30 true (.callv (.t 31) [(.t 33)]),Og 35 30 true (.not (.t 34)),Og 36 26 false (.pick (.t 30) (.t 35) (.c (.bool false))),Ob 37 (.pick (.t 26) (.c (.bool true)) (.t 36)),Ob 6 (.mov (.t 37))])
 (.ret))))
def r59 : List Res := [.t 6]
def a59 : AFn := ⟨3, c59, r59,.v⟩

def c60 : ACode := .seq (.region [Ob 4 (.mov (.c (.bool false)))])
 (.seq (.region [Ob 5 (.mov (.t 0)),Ob 6 (.mov (.t 1)),Ob 7 (.call 92 [(.t 5), (.t 6)]),Ob 8 (.bin .geq (.t 7) (Ci 0)),Ob 4 (.mov (.t 8))])
 (.ret))
def r60 : List Res := [.t 4]
def a60 : AFn := ⟨2, c60, r60,.v⟩

def c61 : ACode := .seq (.region [Ob 3 (.mov (.c (.bool false)))])
 (.seq (.region [Ob 4 (.load (.t 1) none),Ob 5 (.mov (.t 0)),Ob 6 (.callv (.t 4) [(.t 5)]),Ob 7 (.not (.t 6)),Ob 3 (.mov (.t 7))])
 (.ret))
def r61 : List Res := [.t 3]
def a61 : AFn := ⟨2, c61, r61,.v⟩

def c62 : ACode := .seq (.region [Ob 4 (.box (.t 1) 2),Ob 6 (.new (.agg [(.int .i64 0), (.int .i64 0)]) 2)])
 (.seq (.seq (.region [Ob 8 (.addr (.t 4) 0),Ob 9 (.load (.t 8) none),Ob 10 (.mov (.t 0)),Ob 11 (.len (.t 10)),Ob 12 (.bin .lss (.t 9) (.t 11)),Ob 13 (.mov (.t 12)),Og 14 13 true (.addr (.t 4) 1),Og 15 13 true (.load (.t 14) none),Og 16 13 true (.mov (.t 2)),Og 17 13 true (.bin .add (.t 15) (.t 16)),Og 18 13 true (.mov (.t 0)),Og 19 13 true (.addr (.t 4) 0),Og 20 13 true (.load (.t 19) none),Og 21 13 true (.idx (.t 18) (.t 20) 1),Og 22 13 true (.load (.t 21) none),Og 23 13 true (.bin .leq (.t 17) (.t 22)),Ob 24 (.pick (.t 13) (.t 23) (.c (.bool false)))])
 (.cond (.t 24) (.seq (.region [Ob 25 (.addr (.t 4) 0),Ob 26 (.load (.t 25) none),Ob 27 (.addr (.t 4) 1),Ob 28 (.load (.t 27) none),Ob 29 (.mov (.t 2)),Ob 30 (.bin .add (.t 28) (.t 29)),Ob 31 (.build [(.int .i64 0), (.int .i64 0)] [(0, 1, (.t 26)), (1, 1, (.t 30))]),On (.store (.t 6) (.t 31) 2)])
 (.ret))
 (.skip)))
 (.seq (.seq (.region [Ob 32 (.addr (.t 4) 0),Ob 33 (.load (.t 32) none),Ob 34 (.bin .add (.t 33) (Ci 1)),Ob 7 (.mov (.t 34))])
 (.block 0 (.loop (.seq (.seq (.region [Ob 35 (.mov (.t 7)),Ob 36 (.mov (.t 0)),Ob 37 (.len (.t 36)),Ob 38 (.bin .lss (.t 35) (.t 37))])
 (.cond (.t 38) (.skip)
 (.exit 0)))
 (.seq (.block 1 (.seq (.region [Ob 41 (.mov (.t 2)),Ob 42 (.mov (.t 0)),Ob 43 (.mov (.t 7)),Ob 44 (.idx (.t 42) (.t 43) 1),Ob 45 (.load (.t 44) none),Ob 46 (.bin .leq (.t 41) (.t 45))])
 (.cond (.t 46) (.seq (.region [Ob 47 (.mov (.t 7)),Ob 48 (.mov (.t 2)),Ob 49 (.build [(.int .i64 0), (.int .i64 0)] [(0, 1, (.t 47)), (1, 1, (.t 48))]),On (.store (.t 6) (.t 49) 2)])
 (.ret))
 (.skip))))
 (.region [Ob 39 (.mov (.t 7)),Ob 40 (.bin .add (.t 39) (Ci 1)),Ob 7 (.mov (.t 40))]))))))
 (.seq (.region [Ob 50 (.mov (.t 0)),Ob 51 (.len (.t 50)),Ob 52 (.build [(.int .i64 0), (.int .i64 0)] [(0, 1, (.t 51))]),On (.store (.t 6) (.t 52) 2)])
 (.ret))))
def r62 : List Res := [.cell 6 (some 2)]
def a62 : AFn := ⟨3, c62, r62,.v⟩

def c63 : ACode := .seq (.region [Ob 2 (.box (.t 0) 2),Ob 3 (.box (.t 1) 2),Ob 4 (.mov (.c (.bool false)))])
 (.seq (.region [Ob 5 (.addr (.t 2) 0),Ob 6 (.load (.t 5) none),Ob 7 (.addr (.t 3) 0),Ob 8 (.load (.t 7) none),Ob 9 (.call 73 [(.t 6), (.t 8)]),Ob 10 (.addr (.t 2) 1),Ob 11 (.load (.t 10) none),Ob 12 (.addr (.t 3) 1),Ob 13 (.load (.t 12) none),Ob 14 (.call 73 [(.t 11), (.t 13)]),Ob 15 (.lit false 3 1 [(.t 9), (.t 14)]),Ob 16 (.call 72 [(.t 15)]),Ob 17 (.bin .lss (.t 16) (Ci 0)),Ob 4 (.mov (.t 17))])
 (.ret))
def r63 : List Res := [.t 4]
def a63 : AFn := ⟨2, c63, r63,.v⟩

def c64 : ACode := .seq (.region [Ob 4 (.mov (.c (.sl [] .tight)))])
 (.seq (.region [Ob 8 (.mov (.t 1)),Ob 9 (.make (.int .i64 0) 3 1 8 (.t 8) (.t 8)),Ob 5 (.mov (.t 9))])
 (.seq (.seq (.region [Ob 10 (.mov (.t 0)),Ob 11 (.len (.t 10)),Ob 12 (.bin .sub (.t 11) (Ci 1)),Ob 6 (.mov (.t 12))])
 (.block 0 (.loop (.seq (.seq (.region [Ob 13 (.mov (.t 6)),Ob 14 (.bin .gtr (.t 13) (Ci 0))])
 (.cond (.t 14) (.skip)
 (.exit 0)))
 (.block 1 (.seq (.region [Ob 15 (.mov (.t 0)),Ob 16 (.mov (.t 6)),Ob 17 (.idx (.t 15) (.t 16) 3),Ob 18 (.load (.t 17) (some 3)),Ob 7 (.new (.agg [(.int .i64 0), (.int .i64 0), (.int .i64 0)]) 3),On (.store (.t 7) (.t 18) 3)])
 (.seq (.region [Ob 19 (.mov (.t 5)),Ob 20 (.addr (.t 7) 2),Ob 21 (.load (.t 20) none),Ob 22 (.addr (.t 7) 0),Ob 23 (.addr (.t 22) 0),Ob 24 (.load (.t 23) none),Ob 25 (.idx (.t 19) (.t 21) 1),On (.store (.t 25) (.t 24) 1)])
 (.region [Ob 26 (.mov (.t 6)),Ob 27 (.addr (.t 7) 2),Ob 28 (.load (.t 27) none),Ob 29 (.bin .shl (Ci 1) (.t 28)),Ob 30 (.bin .andNot (.t 26) (.t 29)),Ob 6 (.mov (.t 30))]))))))))
 (.seq (.region [Ob 31 (.mov (.t 5)),Ob 4 (.mov (.t 31))])
 (.ret))))
def r64 : List Res := [.t 4]
def a64 : AFn := ⟨2, c64, r64,.o⟩

def c65 : ACode := .seq (.region [Ob 4 (.mov (.c (.bool false)))])
 (.seq (.seq (.region [Ob 5 (.mov (Ci 0))])
 (.block 0 (.loop (.seq (.seq (.region [Ob 6 (.mov (.t 5)),Ob 7 (.mov (.t 0)),Ob 8 (.len (.t 7)),Ob 9 (.bin .lss (.t 6) (.t 8))])
 (.cond (.t 9) (.skip)
 (.exit 0)))
 (.seq (.block 1 (.seq (.region [Ob 12 (.mov (.t 0)),Ob 13 (.mov (.t 5)),Ob 14 (.idx (.t 12) (.t 13) 1),Ob 15 (.load (.t 14) none),Ob 16 (.mov (.t 1)),Ob 17 (.bin .eql (.t 15) (.t 16))])
 (.cond (.t 17) (.seq (.region [Ob 4 (.mov (.c (.bool true)))])
 (.ret))
 (.skip))))
 (.region [Ob 10 (.mov (.t 5)),Ob 11 (.bin .add (.t 10) (Ci 1)),Ob 5 (.mov (.t 11))]))))))
 (.seq (.region [Ob 4 (.mov (.c (.bool false)))])
 (.ret)))
def r65 : List Res := [.t 4]
def a65 : AFn := ⟨2, c65, r65,.v⟩

def c66 : ACode := .seq (.region [Ob 2 (.mov (.c (.bool false)))])
 (.seq (.region [Ob 3 (.mov (.t 0)),Ob 4 (.len (.t 3)),Ob 5 (.bin .leq (.t 4) (Ci 40)),Ob 6 (.mov (.t 5)),Og 7 6 true (.mov (.t 0)),Og 8 6 true (.call 93 [(.t 7), (.c (.fn 94 [] []))]),Ob 9 (.pick (.t 6) (.t 8) (.c (.bool false))),Ob 2 (.mov (.t 9))])
 (.ret))
def r66 : List Res := [.t 2]
def a66 : AFn := ⟨1, c66, r66,.v⟩

def c67 : ACode := .seq (.region [Ob 2 (.mov (.c (.bool false)))])
 (.seq (.region [Ob 8 (.mkmap .i),Ob 3 (.mov (.t 8))])
 (.seq (.seq (.region [Ob 9 (.mov (.t 0)),Ob 10 (.len (.t 9)),Ob 11 (.mov (Ci 0))])
 (.block 0 (.loop (.seq (.region [Ob 12 (.bin .lss (.t 11) (.t 10))])
 (.seq (.cond (.t 12) (.skip)
 (.exit 0))
 (.seq (.block 1 (.seq (.region [Ob 13 (.idx (.t 9) (.t 11) 5),Ob 14 (.load (.t 13) (some 5)),Ob 5 (.new (.agg [(.int .i64 0), (.int .i64 0), (.int .i64 0), (.int .i64 0), (.int .i64 0)]) 5),On (.store (.t 5) (.t 14) 5)])
 (.seq (.seq (.region [Ob 16 (.mov (.t 3)),Ob 17 (.addr (.t 5) 0),Ob 18 (.load (.t 17) none),Ob 19 (.mget .i (.agg [(.int .i64 0), (.int .i64 0), (.int .i64 0), (.int .i64 0), (.int .i64 0)]) true (.t 16) (.t 18)),Ob 15 (.mov (.t 19)),Ob 20 (.ext (.t 15) 0),Ob 21 (.ext (.t 15) 1),Ob 6 (.new (.agg [(.int .i64 0), (.int .i64 0), (.int .i64 0), (.int .i64 0), (.int .i64 0)]) 5),On (.store (.t 6) (.t 20) 5),Ob 7 (.mov (.t 21))])
 (.seq (.region [Ob 22 (.mov (.t 7)),Ob 23 (.mov (.t 22)),Og 24 23 true (.load (.t 5) (some 5)),Og 25 23 true (.load (.t 6) (some 5)),Og 26 23 true (.eqv true true [.i,.i,.i,.i,.i] (.t 24) (.t 25)),Ob 27 (.pick (.t 23) (.t 26) (.c (.bool false)))])
 (.cond (.t 27) (.seq (.region [Ob 2 (.mov (.c (.bool true)))])
 (.ret))
 (.skip))))
 (.region [Ob 28 (.mov (.t 3)),Ob 29 (.addr (.t 5) 0),Ob 30 (.load (.t 29) none),Ob 31 (.load (.t 5) (some 5)),On (.mput .i (.t 28) (.t 30) (.t 31))]))))
 (.region [Ob 32 (.bin .add (.t 11) (Ci 1)),Ob 11 (.mov (.t 32))])))))))
 (.seq (.region [Ob 2 (.mov (.c (.bool false)))])
 (.ret))))
def r67 : List Res := [.t 2]
def a67 : AFn := ⟨1, c67, r67,.v⟩

def c68 : ACode := .seq (.region [Ob 4 (.mov (.c (.int .u64 0))),Ob 5 (.mov (.c (.int .u64 0)))])
 (.seq (.cond (.c (.bool false)) (.seq (.region [Ob 11 (.mov (.t 0)),Ob 12 (.conv .u32 (.t 11)),Ob 13 (.mov (.t 1)),Ob 14 (.conv .u32 (.t 13)),Ob 15 (.call 95 [(.t 12), (.t 14)]),Ob 10 (.mov (.t 15)),Ob 16 (.ext (.t 10) 0),Ob 17 (.ext (.t 10) 1),Ob 6 (.mov (.t 16)),Ob 7 (.mov (.t 17))])
 (.seq (.region [Ob 18 (.mov (.t 6)),Ob 19 (.conv .u64 (.t 18)),Ob 20 (.mov (.t 7)),Ob 21 (.conv .u64 (.t 20)),Ob 4 (.mov (.t 19)),Ob 5 (.mov (.t 21))])
 (.ret)))
 (.skip))
 (.seq (.region [Ob 23 (.mov (.t 0)),Ob 24 (.mov (.t 1)),Ob 25 (.call 96 [(.t 23), (.t 24)]),Ob 22 (.mov (.t 25)),Ob 26 (.ext (.t 22) 0),Ob 27 (.ext (.t 22) 1),Ob 8 (.mov (.t 26)),Ob 9 (.mov (.t 27))])
 (.seq (.region [Ob 28 (.mov (.t 8)),Ob 29 (.mov (.t 9)),Ob 4 (.mov (.t 28)),Ob 5 (.mov (.t 29))])
 (.ret))))
def r68 : List Res := [.t 4,.t 5]
def a68 : AFn := ⟨2, c68, r68,.v⟩

def c69 : ACode := .seq (.region [Ob 2 (.mov (.c (.sl [] .tight)))])
 (.nilq [Ob 3 (.mov (.t 0))] (.t 3) 4 (.seq (.cond (.t 4) (.seq (.region [Ob 2 (.mov (.c (.sl [] .tight)))])
 (.ret))
 (.skip))
 (.seq (.region [Ob 5 (.lit false 44 5 []),Ob 6 (.mov (.t 0)),Ob 7 (.app0 (.t 5) (.t 6) 44 5 40),Ob 2 (.mov (.t 7))])
 (.ret))) [3, 4, 5, 6, 7])
def r69 : List Res := [.t 2]
def a69 : AFn := ⟨1, c69, r69,.o⟩

def c70 : ACode := .seq (.region [Ob 5 (.mov (.t 0)),Ob 6 (.len (.t 5)),Ob 4 (.mov (.t 6))])
 (.region [Ob 7 (.mov (.t 0)),Ob 8 (.mov (.t 4)),Ob 9 (.mov (.t 4)),Ob 10 (.conv .u64 (.t 9)),Ob 11 (.call 57 [(.t 10)]),Ob 12 (.mov (.t 1)),Ob 13 (.call 97 [(.t 7), (Ci 0), (.t 8), (.t 11), (.t 12)])])
def r70 : List Res := []
def a70 : AFn := ⟨2, c70, r70,.r⟩

def c71 : ACode := .seq (.region [Ob 2 (.box (.t 0) 5),Ob 3 (.box (.t 1) 5),Ob 4 (.mov (Ci 0))])
 (.seq (.region [Ob 5 (.addr (.t 2) 1),Ob 6 (.load (.t 5) none),Ob 7 (.addr (.t 3) 1),Ob 8 (.load (.t 7) none),Ob 9 (.call 73 [(.t 6), (.t 8)]),Ob 10 (.addr (.t 2) 0),Ob 11 (.load (.t 10) none),Ob 12 (.addr (.t 3) 0),Ob 13 (.load (.t 12) none),Ob 14 (.call 73 [(.t 11), (.t 13)]),Ob 15 (.lit false 3 1 [(.t 9), (.t 14)]),Ob 16 (.call 72 [(.t 15)]),Ob 4 (.mov (.t 16))])
 (.ret))
def r71 : List Res := [.t 4]
def a71 : AFn := ⟨2, c71, r71,.v⟩

def c72 : ACode := .seq (.region [Ob 2 (.mov (Ci 0))])
 (.seq (.region [Ob 3 (.mov (Ci 0))])
 (.seq (.seq (.region [Ob 6 (.mov (.t 0)),Ob 7 (.len (.t 6)),Ob 8 (.mov (Ci 0))])
 (.block 0 (.loop (.seq (.region [Ob 9 (.bin .lss (.t 8) (.t 7))])
 (.seq (.cond (.t 9) (.skip)
 (.exit 0))
 (.seq (.block 1 (.seq (.region [Ob 10 (.idx (.t 6) (.t 8) 1),Ob 11 (.load (.t 10) none),Ob 5 (.mov (.t 11))])
 (.seq (.region [Ob 12 (.mov (.t 5)),Ob 13 (.mov (.t 3)),Ob 14 (.bin .neq (.t 12) (.t 13))])
 (.cond (.t 14) (.seq (.region [Ob 15 (.mov (.t 5)),Ob 2 (.mov (.t 15))])
 (.ret))
 (.skip)))))
 (.region [Ob 16 (.bin .add (.t 8) (Ci 1)),Ob 8 (.mov (.t 16))])))))))
 (.seq (.region [Ob 17 (.mov (.t 3)),Ob 2 (.mov (.t 17))])
 (.ret))))
def r72 : List Res := [.t 2]
def a72 : AFn := ⟨1, c72, r72,.v⟩

def c73 : ACode := .seq (.region [Ob 4 (.mov (Ci 0))])
 (.seq (.region [Ob 7 (.mov (.t 0)),Ob 8 (.call 98 [(.t 7)]),Ob 5 (.mov (.t 8))])
 (.seq (.region [Ob 9 (.mov (.t 1)),Ob 10 (.call 98 [(.t 9)]),Ob 6 (.mov (.t 10))])
 (.seq (.seq (.region [Ob 11 (.mov (.t 5))])
 (.cond (.t 11) (.seq (.seq (.region [Ob 12 (.mov (.t 6))])
 (.cond (.t 12) (.seq (.region [Ob 4 (.mov (Ci 0))])
 (.ret))
 (.skip)))
 (.seq (.region [Ob 4 (.mov (Ci (-1)))])
 (.ret)))
 (.skip)))
 (.seq (.seq (.region [Ob 13 (.mov (.t 6))])
 (.cond (.t 13) (.seq (.region [Ob 4 (.mov (Ci 1))])
 (.ret))
 (.skip)))
 (.seq (.seq (.region [Ob 14 (.mov (.t 0)),Ob 15 (.mov (.t 1)),Ob 16 (.bin .lss (.t 14) (.t 15))])
 (.cond (.t 16) (.seq (.region [Ob 4 (.mov (Ci (-1)))])
 (.ret))
 (.skip)))
 (.seq (.seq (.region [Ob 17 (.mov (.t 0)),Ob 18 (.mov (.t 1)),Ob 19 (.bin .gtr (.t 17) (.t 18))])
 (.cond (.t 19) (.seq (.region [Ob 4 (.mov (Ci 1))])
 (.ret))
 (.skip)))
 (.seq (.region [Ob 4 (.mov (Ci 0))])
 (.ret))))))))
def r73 : List Res := [.t 4]
def a73 : AFn := ⟨2, c73, r73,.v⟩

def c74 : ACode := .seq (.region [Ob 2 (.mov (.c (.sl [] .tight)))])
 (.seq (.seq (.region [Ob 6 (.mov (.t 0)),Ob 7 (.len (.t 6)),Ob 8 (.bin .lss (.t 7) (Ci 2))])
 (.cond (.t 8) (.seq (.region [Ob 9 (.mov (.t 0)),Ob 2 (.mov (.t 9))])
 (.ret))
 (.skip)))
 (.seq (.seq (.region [Ob 3 (.mov (Ci 1))])
 (.block 0 (.loop (.seq (.seq (.region [Ob 10 (.mov (.t 3)),Ob 11 (.mov (.t 0)),Ob 12 (.len (.t 11)),Ob 13 (.bin .lss (.t 10) (.t 12))])
 (.cond (.t 13) (.skip)
 (.exit 0)))
 (.seq (.block 1 (.seq (.region [Ob 16 (.mov (.t 0)),Ob 17 (.mov (.t 3)),Ob 18 (.idx (.t 16) (.t 17) 5),Ob 19 (.load (.t 18) (some 5)),Ob 20 (.mov (.t 0)),Ob 21 (.mov (.t 3)),Ob 22 (.bin .sub (.t 21) (Ci 1)),Ob 23 (.idx (.t 20) (.t 22) 5),Ob 24 (.load (.t 23) (some 5)),Ob 25 (.eqv false true [.i,.i,.i,.i,.i] (.t 19) (.t 24))])
 (.cond (.t 25) (.seq (.region [Ob 26 (.mov (.t 0)),Ob 27 (.mov (.t 3)),Ob 28 (.slice (.t 26) (some (.t 27)) none 5),Ob 4 (.mov (.t 28))])
 (.seq (.seq (.region [Ob 5 (.mov (Ci 1))])
 (.block 2 (.loop (.seq (.seq (.region [Ob 29 (.mov (.t 5)),Ob 30 (.mov (.t 4)),Ob 31 (.len (.t 30)),Ob 32 (.bin .lss (.t 29) (.t 31))])
 (.cond (.t 32) (.skip)
 (.exit 2)))
 (.seq (.block 3 (.seq (.region [Ob 35 (.mov (.t 4)),Ob 36 (.mov (.t 5)),Ob 37 (.idx (.t 35) (.t 36) 5),Ob 38 (.load (.t 37) (some 5)),Ob 39 (.mov (.t 4)),Ob 40 (.mov (.t 5)),Ob 41 (.bin .sub (.t 40) (Ci 1)),Ob 42 (.idx (.t 39) (.t 41) 5),Ob 43 (.load (.t 42) (some 5)),Ob 44 (.eqv true true [.i,.i,.i,.i,.i] (.t 38) (.t 43))])
 (.cond (.t 44) (.seq (.region [Ob 45 (.mov (.t 0)),Ob 46 (.mov (.t 3)),Ob 47 (.mov (.t 4)),Ob 48 (.mov (.t 5)),Ob 49 (.idx (.t 47) (.t 48) 5),Ob 50 (.load (.t 49) (some 5)),Ob 51 (.idx (.t 45) (.t 46) 5),On (.store (.t 51) (.t 50) 5)])
 (.region [Ob 52 (.mov (.t 3)),Ob 53 (.bin .add (.t 52) (Ci 1)),Ob 3 (.mov (.t 53))]))
 (.skip))))
 (.region [Ob 33 (.mov (.t 5)),Ob 34 (.bin .add (.t 33) (Ci 1)),Ob 5 (.mov (.t 34))]))))))
 (.seq (.region [Ob 54 (.mov (.t 0)),Ob 55 (.mov (.t 3)),Ob 56 (.slice (.t 54) (some (.t 55)) none 5),On (.clr (.t 56) (.agg [(.int .i64 0), (.int .i64 0), (.int .i64 0), (.int .i64 0), (.int .i64 0)]) 5)])
 (.seq (.region [Ob 57 (.mov (.t 0)),Ob 58 (.mov (.t 3)),Ob 59 (.slice (.t 57) none (some (.t 58)) 5),Ob 2 (.mov (.t 59))])
 (.ret)))))
 (.skip))))
 (.region [Ob 14 (.mov (.t 3)),Ob 15 (.bin .add (.t 14) (Ci 1)),Ob 3 (.mov (.t 15))]))))))
 (.seq (.region [Ob 60 (.mov (.t 0)),Ob 2 (.mov (.t 60))])
 (.ret))))
def r74 : List Res := [.t 2]
def a74 : AFn := ⟨1, c74, r74,.r⟩

def c75 : ACode := .seq (.region [Ob 3 (.box (.t 1) 5)])
 (.seq (.seq (.region [Ob 11 (.mov (.t 0)),Ob 12 (.addr (.t 11) 0),Ob 13 (.addr (.t 12) 3),Ob 14 (.load (.t 13) none),Ob 15 (.addr (.t 3) 3),Ob 16 (.load (.t 15) none),Ob 17 (.mget .i .nilp true (.t 14) (.t 16)),Ob 10 (.mov (.t 17)),Ob 18 (.ext (.t 10) 0),Ob 19 (.ext (.t 10) 1),Ob 4 (.mov (.t 18)),Ob 5 (.mov (.t 19))])
 (.seq (.region [Ob 20 (.mov (.t 5))])
 (.cond (.t 20) (.ret)
 (.skip))))
 (.seq (.region [Ob 21 (.addr (.t 3) 4),Ob 22 (.load (.t 21) none),Ob 23 (.build [(.int .i64 0), (.int .i64 0), (.int .i64 0), (.int .i64 0)] [(0, 1, (Ci 1)), (1, 1, (Ci (-1))), (2, 1, (Ci (-1))), (3, 1, (.t 22))]),Ob 24 (.addr (.t 3) 1),Ob 25 (.load (.t 24) none),Ob 26 (.build [(.int .i64 0), (.int .i64 0), (.int .i64 0), (.int .i64 0), (.int .i64 0)] [(0, 4, (.t 23)), (4, 1, (.t 25))]),Ob 27 (.box (.t 26) 5),Ob 6 (.mov (.t 27))])
 (.seq (.region [Ob 28 (.mov (.t 0)),Ob 29 (.addr (.t 28) 0),Ob 30 (.addr (.t 29) 3),Ob 31 (.load (.t 30) none),Ob 32 (.addr (.t 3) 3),Ob 33 (.load (.t 32) none),Ob 34 (.mov (.t 6)),On (.mput .i (.t 31) (.t 33) (.t 34))])
 (.seq (.region [Ob 36 (.mov (.t 0)),Ob 37 (.addr (.t 3) 4),Ob 38 (.load (.t 37) none),Ob 39 (.call 40 [(.t 36), (.t 38)]),Ob 35 (.mov (.t 39)),Ob 40 (.ext (.t 35) 0),Ob 41 (.ext (.t 35) 1),Ob 42 (.ext (.t 35) 2),Ob 7 (.mov (.t 40)),Ob 8 (.mov (.t 41)),Ob 9 (.mov (.t 42))])
 (.seq (.region [Ob 43 (.mov (.t 9))])
 (.cond (.t 43) (.seq (.region [Ob 44 (.mov (.t 6)),Ob 45 (.mov (.t 6)),Ob 46 (.mov (.t 6)),Ob 47 (.mov (.t 7)),Ob 48 (.mov (.t 8)),Ob 49 (.addr (.t 44) 0),Ob 50 (.addr (.t 49) 0),Ob 51 (.addr (.t 50) 0),On (.store (.t 51) (Ci 2) 1),Ob 52 (.addr (.t 45) 0),Ob 53 (.addr (.t 52) 0),Ob 54 (.addr (.t 53) 1),On (.store (.t 54) (.t 47) 1),Ob 55 (.addr (.t 46) 0),Ob 56 (.addr (.t 55) 0),Ob 57 (.addr (.t 56) 2),On (.store (.t 57) (.t 48) 1)])
 (.region [Ob 58 (.mov (.t 0)),Ob 59 (.mov (.t 6)),Ob 60 (.addr (.t 59) 0),Ob 61 (.addr (.t 60) 0),Ob 62 (.load (.t 61) (some 4)),Ob 63 (.addr (.t 3) 3),Ob 64 (.load (.t 63) none),Ob 65 (.call 99 [(.t 58), (.t 62), (.t 64)])]))
 (.skip)))))))
def r75 : List Res := []
def a75 : AFn := ⟨2, c75, r75,.r⟩

def c76 : ACode := .seq (.region [Ob 7 (.mov (.t 0)),Ob 8 (.addr (.t 7) 0),Ob 9 (.addr (.t 8) 3),Ob 10 (.load (.t 9) none),Ob 11 (.mov (.t 1)),Ob 12 (.mget .i .nilp true (.t 10) (.t 11)),Ob 6 (.mov (.t 12)),Ob 13 (.ext (.t 6) 0),Ob 14 (.ext (.t 6) 1),Ob 4 (.mov (.t 13)),Ob 5 (.mov (.t 14))])
 (.seq (.seq (.region [Ob 15 (.mov (.t 5)),Ob 16 (.not (.t 15)),Ob 17 (.mov (.t 16)),Og 18 17 false (.mov (.t 4)),Og 19 17 false (.addr (.t 18) 0),Og 20 17 false (.addr (.t 19) 0),Og 21 17 false (.addr (.t 20) 0),Og 22 17 false (.load (.t 21) none),Og 23 17 false (.bin .neq (.t 22) (Ci 2)),Ob 24 (.pick (.t 17) (.c (.bool true)) (.t 23))])
 (.cond (.t 24) (.seq (.region [Ob 25 (.mov (.t 0)),Ob 26 (.mov (.t 0)),Ob 27 (.addr (.t 26) 0),Ob 28 (.addr (.t 27) 4),Ob 29 (.load (.t 28) none),Ob 30 (.mov (.t 1)),Ob 31 (.lit true 3 1 [(.t 30)]),Ob 32 (.app true (.t 29) (.t 31) 3 1 8),Ob 33 (.addr (.t 25) 0),Ob 34 (.addr (.t 33) 4),On (.store (.t 34) (.t 32) 1)])
 (.ret))
 (.skip)))
 (.region [Ob 35 (.mov (.t 4)),Ob 36 (.addr (.t 35) 0),Ob 37 (.addr (.t 36) 0),Ob 38 (.addr (.t 37) 0),On (.store (.t 38) (Ci 3) 1)]))
def r76 : List Res := []
def a76 : AFn := ⟨2, c76, r76,.r⟩

def c77 : ACode := .seq (.region [Ob 7 (.mov (.t 0)),Ob 8 (.addr (.t 7) 0),Ob 9 (.addr (.t 8) 3),Ob 10 (.load (.t 9) none),Ob 11 (.mov (.t 1)),Ob 12 (.mget .i .nilp true (.t 10) (.t 11)),Ob 6 (.mov (.t 12)),Ob 13 (.ext (.t 6) 0),Ob 14 (.ext (.t 6) 1),Ob 4 (.mov (.t 13)),Ob 5 (.mov (.t 14))])
 (.seq (.region [Ob 15 (.mov (.t 5)),Ob 16 (.mov (.t 15)),Og 17 16 true (.mov (.t 4)),Og 18 16 true (.addr (.t 17) 0),Og 19 16 true (.addr (.t 18) 0),Og 20 16 true (.addr (.t 19) 0),Og 21 16 true (.load (.t 20) none),Og 22 16 true (.bin .eql (.t 21) (Ci 2)),Og 23 16 true (.mov (.t 22)),Og 24 23 false (.mov (.t 4)),Og 25 23 false (.addr (.t 24) 0),Og 26 23 false (.addr (.t 25) 0),Og 27 23 false (.addr (.t 26) 0),Og 28 23 false (.load (.t 27) none),Og 29 23 false (.bin .eql (.t 28) (Ci 3)),Og 30 16 true (.pick (.t 23) (.c (.bool true)) (.t 29)),Ob 31 (.pick (.t 16) (.t 30) (.c (.bool false)))])
 (.cond (.t 31) (.region [Ob 32 (.mov (.t 0)),Ob 33 (.mov (.t 4)),Ob 34 (.call 78 [(.t 32), (.t 33), (Ci 5)])])
 (.skip)))
def r77 : List Res := []
def a77 : AFn := ⟨2, c77, r77,.r⟩

def c78 : ACode := .seq (.region [Ob 6 (.mov (.t 0)),Ob 7 (.mov (.t 1)),Ob 8 (.addr (.t 7) 0),Ob 9 (.addr (.t 8) 0),Ob 10 (.load (.t 9) (some 4)),Ob 11 (.call 99 [(.t 6), (.t 10), (Ci (-1))])])
 (.region [Ob 12 (.mov (.t 1)),Ob 13 (.mov (.t 1)),Ob 14 (.mov (.t 1)),Ob 15 (.mov (.t 2)),Ob 16 (.addr (.t 12) 0),Ob 17 (.addr (.t 16) 0),Ob 18 (.addr (.t 17) 0),On (.store (.t 18) (.t 15) 1),Ob 19 (.addr (.t 13) 0),Ob 20 (.addr (.t 19) 0),Ob 21 (.addr (.t 20) 1),On (.store (.t 21) (Ci (-1)) 1),Ob 22 (.addr (.t 14) 0),Ob 23 (.addr (.t 22) 0),Ob 24 (.addr (.t 23) 2),On (.store (.t 24) (Ci (-1)) 1)])
def r78 : List Res := []
def a78 : AFn := ⟨3, c78, r78,.r⟩

def c79 : ACode := .seq (.region [Ob 8 (.mov (.t 1)),Ob 9 (.bin .add (.t 8) (Ci 1)),Ob 6 (.mov (.t 9))])
 (.block 0 (.loop (.seq (.seq (.region [Ob 10 (.mov (.t 6)),Ob 11 (.mov (.t 2)),Ob 12 (.bin .lss (.t 10) (.t 11))])
 (.cond (.t 12) (.skip)
 (.exit 0)))
 (.seq (.block 1 (.seq (.region [Ob 15 (.mov (.t 6)),Ob 7 (.mov (.t 15))])
 (.block 2 (.loop (.seq (.seq (.region [Ob 16 (.mov (.t 7)),Ob 17 (.mov (.t 1)),Ob 18 (.bin .gtr (.t 16) (.t 17)),Ob 19 (.mov (.t 18)),Og 20 19 true (.mov (.t 0)),Og 21 19 true (.mov (.t 7)),Og 22 19 true (.idx (.t 20) (.t 21) 1),Og 23 19 true (.load (.t 22) none),Og 24 19 true (.mov (.t 0)),Og 25 19 true (.mov (.t 7)),Og 26 19 true (.bin .sub (.t 25) (Ci 1)),Og 27 19 true (.idx (.t 24) (.t 26) 1),Og 28 19 true (.load (.t 27) none),Og 29 19 true (.call 85 [(.t 23), (.t 28)]),Ob 30 (.pick (.t 19) (.t 29) (.c (.bool false)))])
 (.cond (.t 30) (.skip)
 (.exit 2)))
 (.seq (.block 3 (.region [Ob 33 (.mov (.t 0)),Ob 34 (.mov (.t 7)),Ob 35 (.mov (.t 0)),Ob 36 (.mov (.t 7)),Ob 37 (.bin .sub (.t 36) (Ci 1)),Ob 38 (.mov (.t 0)),Ob 39 (.mov (.t 7)),Ob 40 (.bin .sub (.t 39) (Ci 1)),Ob 41 (.idx (.t 38) (.t 40) 1),Ob 42 (.load (.t 41) none),Ob 43 (.mov (.t 0)),Ob 44 (.mov (.t 7)),Ob 45 (.idx (.t 43) (.t 44) 1),Ob 46 (.load (.t 45) none),Ob 47 (.idx (.t 33) (.t 34) 1),On (.store (.t 47) (.t 42) 1),Ob 48 (.idx (.t 35) (.t 37) 1),On (.store (.t 48) (.t 46) 1)]))
 (.region [Ob 31 (.mov (.t 7)),Ob 32 (.bin .sub (.t 31) (Ci 1)),Ob 7 (.mov (.t 32))])))))))
 (.region [Ob 13 (.mov (.t 6)),Ob 14 (.bin .add (.t 13) (Ci 1)),Ob 6 (.mov (.t 14))])))))
def r79 : List Res := []
def a79 : AFn := ⟨3, c79, r79,.r⟩

def c80 : ACode := .seq (.region [Ob 11 (.mov (.t 1)),Ob 6 (.mov (.t 11))])
 (.seq (.region [Ob 7 (.mov (Ci 0))])
 (.seq (.region [Ob 12 (.mov (.t 2)),Ob 13 (.mov (.t 1)),Ob 14 (.bin .sub (.t 12) (.t 13)),Ob 8 (.mov (.t 14))])
 (.seq (.seq (.region [Ob 15 (.mov (.t 8)),Ob 16 (.bin .sub (.t 15) (Ci 1)),Ob 17 (.bin .quo (.t 16) (Ci 2)),Ob 9 (.mov (.t 17))])
 (.block 0 (.loop (.seq (.seq (.region [Ob 18 (.mov (.t 9)),Ob 19 (.bin .geq (.t 18) (Ci 0))])
 (.cond (.t 19) (.skip)
 (.exit 0)))
 (.seq (.block 1 (.region [Ob 22 (.mov (.t 0)),Ob 23 (.mov (.t 9)),Ob 24 (.mov (.t 8)),Ob 25 (.mov (.t 6)),Ob 26 (.call 100 [(.t 22), (.t 23), (.t 24), (.t 25)])]))
 (.region [Ob 20 (.mov (.t 9)),Ob 21 (.bin .sub (.t 20) (Ci 1)),Ob 9 (.mov (.t 21))]))))))
 (.seq (.region [Ob 27 (.mov (.t 8)),Ob 28 (.bin .sub (.t 27) (Ci 1)),Ob 10 (.mov (.t 28))])
 (.block 2 (.loop (.seq (.seq (.region [Ob 29 (.mov (.t 10)),Ob 30 (.bin .geq (.t 29) (Ci 0))])
 (.cond (.t 30) (.skip)
 (.exit 2)))
 (.seq (.block 3 (.seq (.region [Ob 33 (.mov (.t 0)),Ob 34 (.mov (.t 6)),Ob 35 (.mov (.t 0)),Ob 36 (.mov (.t 6)),Ob 37 (.mov (.t 10)),Ob 38 (.bin .add (.t 36) (.t 37)),Ob 39 (.mov (.t 0)),Ob 40 (.mov (.t 6)),Ob 41 (.mov (.t 10)),Ob 42 (.bin .add (.t 40) (.t 41)),Ob 43 (.idx (.t 39) (.t 42) 1),Ob 44 (.load (.t 43) none),Ob 45 (.mov (.t 0)),Ob 46 (.mov (.t 6)),Ob 47 (.idx (.t 45) (.t 46) 1),Ob 48 (.load (.t 47) none),Ob 49 (.idx (.t 33) (.t 34) 1),On (.store (.t 49) (.t 44) 1),Ob 50 (.idx (.t 35) (.t 38) 1),On (.store (.t 50) (.t 48) 1)])
 (.region [Ob 51 (.mov (.t 0)),Ob 52 (.mov (.t 7)),Ob 53 (.mov (.t 10)),Ob 54 (.mov (.t 6)),Ob 55 (.call 100 [(.t 51), (.t 52), (.t 53), (.t 54)])])))
 (.region [Ob 31 (.mov (.t 10)),Ob 32 (.bin .sub (.t 31) (Ci 1)),Ob 10 (.mov (.t 32))])))))))))
def r80 : List Res := []
def a80 : AFn := ⟨3, c80, r80,.r⟩

def c81 : ACode := .seq (.region [Ob 11 (.mov (.t 2)),Ob 12 (.mov (.t 1)),Ob 13 (.bin .sub (.t 11) (.t 12)),Ob 6 (.mov (.t 13))])
 (.seq (.region [Ob 14 (.mov (.t 6)),Ob 15 (.bin .geq (.t 14) (Ci 8))])
 (.cond (.t 15) (.seq (.region [Ob 16 (.mov (.t 6)),Ob 17 (.conv .u64 (.t 16)),Ob 7 (.new (.int .u64 0) 1),On (.store (.t 7) (.t 17) 1)])
 (.seq (.region [Ob 18 (.mov (.t 6)),Ob 19 (.call 101 [(.t 18)]),Ob 8 (.mov (.t 19))])
 (.seq (.region [Ob 20 (.mov (.t 1)),Ob 21 (.mov (.t 6)),Ob 22 (.bin .quo (.t 21) (Ci 4)),Ob 23 (.bin .mul (.t 22) (Ci 2)),Ob 24 (.bin .add (.t 20) (.t 23)),Ob 25 (.bin .sub (.t 24) (Ci 1)),Ob 9 (.mov (.t 25))])
 (.block 0 (.loop (.seq (.seq (.region [Ob 26 (.mov (.t 9)),Ob 27 (.mov (.t 1)),Ob 28 (.mov (.t 6)),Ob 29 (.bin .quo (.t 28) (Ci 4)),Ob 30 (.bin .mul (.t 29) (Ci 2)),Ob 31 (.bin .add (.t 27) (.t 30)),Ob 32 (.bin .add (.t 31) (Ci 1)),Ob 33 (.bin .leq (.t 26) (.t 32))])
 (.cond (.t 33) (.skip)
 (.exit 0)))
 (.seq (.block 1 (.seq (.region [Ob 36 (.call 102 [(.t 7)]),Ob 37 (.mov (.t 8)),Ob 38 (.bin .sub (.t 37) (.c (.int .u64 1))),Ob 39 (.bin .and (.t 36) (.t 38)),Ob 40 (.conv .i64 (.t 39)),Ob 10 (.mov (.t 40))])
 (.seq (.seq (.region [Ob 41 (.mov (.t 10)),Ob 42 (.mov (.t 6)),Ob 43 (.bin .geq (.t 41) (.t 42))])
 (.cond (.t 43) (.region [Ob 44 (.mov (.t 10)),Ob 45 (.mov (.t 6)),Ob 46 (.bin .sub (.t 44) (.t 45)),Ob 10 (.mov (.t 46))])
 (.skip)))
 (.region [Ob 47 (.mov (.t 0)),Ob 48 (.mov (.t 9)),Ob 49 (.mov (.t 0)),Ob 50 (.mov (.t 1)),Ob 51 (.mov (.t 10)),Ob 52 (.bin .add (.t 50) (.t 51)),Ob 53 (.mov (.t 0)),Ob 54 (.mov (.t 1)),Ob 55 (.mov (.t 10)),Ob 56 (.bin .add (.t 54) (.t 55)),Ob 57 (.idx (.t 53) (.t 56) 1),Ob 58 (.load (.t 57) none),Ob 59 (.mov (.t 0)),Ob 60 (.mov (.t 9)),Ob 61 (.idx (.t 59) (.t 60) 1),Ob 62 (.load (.t 61) none),Ob 63 (.idx (.t 47) (.t 48) 1),On (.store (.t 63) (.t 58) 1),Ob 64 (.idx (.t 49) (.t 52) 1),On (.store (.t 64) (.t 62) 1)]))))
 (.region [Ob 34 (.mov (.t 9)),Ob 35 (.bin .add (.t 34) (Ci 1)),Ob 9 (.mov (.t 35))]))))))))
 (.skip)))
def r81 : List Res := []
def a81 : AFn := ⟨3, c81, r81,.r⟩

def c82 : ACode := .seq (.region [Ob 6 (.mov (Ci 0)),Ob 7 (.mov (Ci 0))])
 (.seq (.region [Ob 13 (.mov (.t 2)),Ob 14 (.mov (.t 1)),Ob 15 (.bin .sub (.t 13) (.t 14)),Ob 8 (.mov (.t 15))])
 (.seq (.region [Ob 9 (.new (.int .i64 0) 1)])
 (.seq (.region [Ob 16 (.mov (.t 1)),Ob 17 (.mov (.t 8)),Ob 18 (.bin .quo (.t 17) (Ci 4)),Ob 19 (.bin .mul (.t 18) (Ci 1)),Ob 20 (.bin .add (.t 16) (.t 19)),Ob 10 (.mov (.t 20))])
 (.seq (.region [Ob 21 (.mov (.t 1)),Ob 22 (.mov (.t 8)),Ob 23 (.bin .quo (.t 22) (Ci 4)),Ob 24 (.bin .mul (.t 23) (Ci 2)),Ob 25 (.bin .add (.t 21) (.t 24)),Ob 11 (.mov (.t 25))])
 (.seq (.region [Ob 26 (.mov (.t 1)),Ob 27 (.mov (.t 8)),Ob 28 (.bin .quo (.t 27) (Ci 4)),Ob 29 (.bin .mul (.t 28) (Ci 3)),Ob 30 (.bin .add (.t 26) (.t 29)),Ob 12 (.mov (.t 30))])
 (.seq (.seq (.region [Ob 31 (.mov (.t 8)),Ob 32 (.bin .geq (.t 31) (Ci 8))])
 (.cond (.t 32) (.seq (.seq (.region [Ob 33 (.mov (.t 8)),Ob 34 (.bin .geq (.t 33) (Ci 50))])
 (.cond (.t 34) (.seq (.region [Ob 35 (.mov (.t 0)),Ob 36 (.mov (.t 10)),Ob 37 (.call 103 [(.t 35), (.t 36), (.t 9)]),Ob 10 (.mov (.t 37))])
 (.seq (.region [Ob 38 (.mov (.t 0)),Ob 39 (.mov (.t 11)),Ob 40 (.call 103 [(.t 38), (.t 39), (.t 9)]),Ob 11 (.mov (.t 40))])
 (.region [Ob 41 (.mov (.t 0)),Ob 42 (.mov (.t 12)),Ob 43 (.call 103 [(.t 41), (.t 42), (.t 9)]),Ob 12 (.mov (.t 43))])))
 (.skip)))
 (.region [Ob 44 (.mov (.t 0)),Ob 45 (.mov (.t 10)),Ob 46 (.mov (.t 11)),Ob 47 (.mov (.t 12)),Ob 48 (.call 104 [(.t 44), (.t 45), (.t 46), (.t 47), (.t 9)]),Ob 11 (.mov (.t 48))]))
 (.skip)))
 (.seq (.region [Ob 49 (.load (.t 9) none)])
 (.block 0 (.seq (.region [Ob 52 (.bin .eql (.t 49) (Ci 0)),Ob 51 (.mov (.t 52))])
 (.cond (.t 51) (.seq (.region [Ob 53 (.mov (.t 11)),Ob 6 (.mov (.t 53)),Ob 7 (.mov (Ci 1))])
 (.ret))
 (.seq (.region [Ob 55 (.bin .eql (.t 49) (Ci 12)),Ob 54 (.mov (.t 55))])
 (.cond (.t 54) (.seq (.region [Ob 56 (.mov (.t 11)),Ob 6 (.mov (.t 56)),Ob 7 (.mov (Ci 2))])
 (.ret))
 (.seq (.region [Ob 50 (.mov (.t 11)),Ob 6 (.mov (.t 50)),Ob 7 (.mov (Ci 0))])
 (.ret))))))))))))))
def r82 : List Res := [.t 6,.t 7]
def a82 : AFn := ⟨3, c82, r82,.r⟩

def c83 : ACode := .seq (.region [Ob 8 (.mov (.t 1)),Ob 6 (.mov (.t 8))])
 (.seq (.region [Ob 9 (.mov (.t 2)),Ob 10 (.bin .sub (.t 9) (Ci 1)),Ob 7 (.mov (.t 10))])
 (.block 0 (.loop (.seq (.seq (.region [Ob 11 (.mov (.t 6)),Ob 12 (.mov (.t 7)),Ob 13 (.bin .lss (.t 11) (.t 12))])
 (.cond (.t 13) (.skip)
 (.exit 0)))
 (.block 1 (.seq (.region [Ob 14 (.mov (.t 0)),Ob 15 (.mov (.t 6)),Ob 16 (.mov (.t 0)),Ob 17 (.mov (.t 7)),Ob 18 (.mov (.t 0)),Ob 19 (.mov (.t 7)),Ob 20 (.idx (.t 18) (.t 19) 1),Ob 21 (.load (.t 20) none),Ob 22 (.mov (.t 0)),Ob 23 (.mov (.t 6)),Ob 24 (.idx (.t 22) (.t 23) 1),Ob 25 (.load (.t 24) none),Ob 26 (.idx (.t 14) (.t 15) 1),On (.store (.t 26) (.t 21) 1),Ob 27 (.idx (.t 16) (.t 17) 1),On (.store (.t 27) (.t 25) 1)])
 (.seq (.region [Ob 28 (.mov (.t 6)),Ob 29 (.bin .add (.t 28) (Ci 1)),Ob 6 (.mov (.t 29))])
 (.region [Ob 30 (.mov (.t 7)),Ob 31 (.bin .sub (.t 30) (Ci 1)),Ob 7 (.mov (.t 31))]))))))))
def r83 : List Res := []
def a83 : AFn := ⟨3, c83, r83,.r⟩

def c84 : ACode := .seq (.region [Ob 6 (.mov (.c (.bool false)))])
 (.seq (.region [Ob 11 (.mov (.t 1)),Ob 12 (.bin .add (.t 11) (Ci 1)),Ob 7 (.mov (.t 12))])
 (.seq (.seq (.region [Ob 8 (.mov (Ci 0))])
 (.block 0 (.loop (.seq (.seq (.region [Ob 13 (.mov (.t 8)),Ob 14 (.bin .lss (.t 13) (Ci 5))])
 (.cond (.t 14) (.skip)
 (.exit 0)))
 (.seq (.block 1 (.seq (.block 2 (.loop (.seq (.seq (.region [Ob 17 (.mov (.t 7)),Ob 18 (.mov (.t 2)),Ob 19 (.bin .lss (.t 17) (.t 18)),Ob 20 (.mov (.t 19)),Og 21 20 true (.mov (.t 0)),Og 22 20 true (.mov (.t 7)),Og 23 20 true (.idx (.t 21) (.t 22) 1),Og 24 20 true (.load (.t 23) none),Og 25 20 true (.mov (.t 0)),Og 26 20 true (.mov (.t 7)),Og 27 20 true (.bin .sub (.t 26) (Ci 1)),Og 28 20 true (.idx (.t 25) (.t 27) 1),Og 29 20 true (.load (.t 28) none),Og 30 20 true (.call 85 [(.t 24), (.t 29)]),Og 31 20 true (.not (.t 30)),Ob 32 (.pick (.t 20) (.t 31) (.c (.bool false)))])
 (.cond (.t 32) (.skip)
 (.exit 2)))
 (.block 3 (.region [Ob 33 (.mov (.t 7)),Ob 34 (.bin .add (.t 33) (Ci 1)),Ob 7 (.mov (.t 34))])))))
 (.seq (.seq (.region [Ob 35 (.mov (.t 7)),Ob 36 (.mov (.t 2)),Ob 37 (.bin .eql (.t 35) (.t 36))])
 (.cond (.t 37) (.seq (.region [Ob 6 (.mov (.c (.bool true)))])
 (.ret))
 (.skip)))
 (.seq (.seq (.region [Ob 38 (.mov (.t 2)),Ob 39 (.mov (.t 1)),Ob 40 (.bin .sub (.t 38) (.t 39)),Ob 41 (.bin .lss (.t 40) (Ci 50))])
 (.cond (.t 41) (.seq (.region [Ob 6 (.mov (.c (.bool false)))])
 (.ret))
 (.skip)))
 (.seq (.region [Ob 42 (.mov (.t 0)),Ob 43 (.mov (.t 7)),Ob 44 (.mov (.t 0)),Ob 45 (.mov (.t 7)),Ob 46 (.bin .sub (.t 45) (Ci 1)),Ob 47 (.mov (.t 0)),Ob 48 (.mov (.t 7)),Ob 49 (.bin .sub (.t 48) (Ci 1)),Ob 50 (.idx (.t 47) (.t 49) 1),Ob 51 (.load (.t 50) none),Ob 52 (.mov (.t 0)),Ob 53 (.mov (.t 7)),Ob 54 (.idx (.t 52) (.t 53) 1),Ob 55 (.load (.t 54) none),Ob 56 (.idx (.t 42) (.t 43) 1),On (.store (.t 56) (.t 51) 1),Ob 57 (.idx (.t 44) (.t 46) 1),On (.store (.t 57) (.t 55) 1)])
 (.seq (.seq (.region [Ob 58 (.mov (.t 7)),Ob 59 (.mov (.t 1)),Ob 60 (.bin .sub (.t 58) (.t 59)),Ob 61 (.bin .geq (.t 60) (Ci 2))])
 (.cond (.t 61) (.seq (.region [Ob 62 (.mov (.t 7)),Ob 63 (.bin .sub (.t 62) (Ci 1)),Ob 9 (.mov (.t 63))])
 (.block 4 (.loop (.seq (.seq (.region [Ob 64 (.mov (.t 9)),Ob 65 (.bin .geq (.t 64) (Ci 1))])
 (.cond (.t 65) (.skip)
 (.exit 4)))
 (.seq (.block 5 (.seq (.seq (.region [Ob 68 (.mov (.t 0)),Ob 69 (.mov (.t 9)),Ob 70 (.idx (.t 68) (.t 69) 1),Ob 71 (.load (.t 70) none),Ob 72 (.mov (.t 0)),Ob 73 (.mov (.t 9)),Ob 74 (.bin .sub (.t 73) (Ci 1)),Ob 75 (.idx (.t 72) (.t 74) 1),Ob 76 (.load (.t 75) none),Ob 77 (.call 85 [(.t 71), (.t 76)]),Ob 78 (.not (.t 77))])
 (.cond (.t 78) (.exit 4)
 (.skip)))
 (.region [Ob 79 (.mov (.t 0)),Ob 80 (.mov (.t 9)),Ob 81 (.mov (.t 0)),Ob 82 (.mov (.t 9)),Ob 83 (.bin .sub (.t 82) (Ci 1)),Ob 84 (.mov (.t 0)),Ob 85 (.mov (.t 9)),Ob 86 (.bin .sub (.t 85) (Ci 1)),Ob 87 (.idx (.t 84) (.t 86) 1),Ob 88 (.load (.t 87) none),Ob 89 (.mov (.t 0)),Ob 90 (.mov (.t 9)),Ob 91 (.idx (.t 89) (.t 90) 1),Ob 92 (.load (.t 91) none),Ob 93 (.idx (.t 79) (.t 80) 1),On (.store (.t 93) (.t 88) 1),Ob 94 (.idx (.t 81) (.t 83) 1),On (.store (.t 94) (.t 92) 1)])))
 (.region [Ob 66 (.mov (.t 9)),Ob 67 (.bin .sub (.t 66) (Ci 1)),Ob 9 (.mov (.t 67))]))))))
 (.skip)))
 (.seq (.region [Ob 95 (.mov (.t 2)),Ob 96 (.mov (.t 7)),Ob 97 (.bin .sub (.t 95) (.t 96)),Ob 98 (.bin .geq (.t 97) (Ci 2))])
 (.cond (.t 98) (.seq (.region [Ob 99 (.mov (.t 7)),Ob 100 (.bin .add (.t 99) (Ci 1)),Ob 10 (.mov (.t 100))])
 (.block 6 (.loop (.seq (.seq (.region [Ob 101 (.mov (.t 10)),Ob 102 (.mov (.t 2)),Ob 103 (.bin .lss (.t 101) (.t 102))])
 (.cond (.t 103) (.skip)
 (.exit 6)))
 (.seq (.block 7 (.seq (.seq (.region [Ob 106 (.mov (.t 0)),Ob 107 (.mov (.t 10)),Ob 108 (.idx (.t 106) (.t 107) 1),Ob 109 (.load (.t 108) none),Ob 110 (.mov (.t 0)),Ob 111 (.mov (.t 10)),Ob 112 (.bin .sub (.t 111) (Ci 1)),Ob 113 (.idx (.t 110) (.t 112) 1),Ob 114 (.load (.t 113) none),Ob 115 (.call 85 [(.t 109), (.t 114)]),Ob 116 (.not (.t 115))])
 (.cond (.t 116) (.exit 6)
 (.skip)))
 (.region [Ob 117 (.mov (.t 0)),Ob 118 (.mov (.t 10)),Ob 119 (.mov (.t 0)),Ob 120 (.mov (.t 10)),Ob 121 (.bin .sub (.t 120) (Ci 1)),Ob 122 (.mov (.t 0)),Ob 123 (.mov (.t 10)),Ob 124 (.bin .sub (.t 123) (Ci 1)),Ob 125 (.idx (.t 122) (.t 124) 1),Ob 126 (.load (.t 125) none),Ob 127 (.mov (.t 0)),Ob 128 (.mov (.t 10)),Ob 129 (.idx (.t 127) (.t 128) 1),Ob 130 (.load (.t 129) none),Ob 131 (.idx (.t 117) (.t 118) 1),On (.store (.t 131) (.t 126) 1),Ob 132 (.idx (.t 119) (.t 121) 1),On (.store (.t 132) (.t 130) 1)])))
 (.region [Ob 104 (.mov (.t 10)),Ob 105 (.bin .add (.t 104) (Ci 1)),Ob 10 (.mov (.t 105))]))))))
 (.skip)))))))))
 (.region [Ob 15 (.mov (.t 8)),Ob 16 (.bin .add (.t 15) (Ci 1)),Ob 8 (.mov (.t 16))]))))))
 (.seq (.region [Ob 6 (.mov (.c (.bool false)))])
 (.ret))))
def r84 : List Res := [.t 6]
def a84 : AFn := ⟨3, c84, r84,.r⟩

def c85 : ACode := .seq (.region [Ob 4 (.mov (.c (.bool false)))])
 (.seq (.region [Ob 5 (.mov (.t 0)),Ob 6 (.call 98 [(.t 5)]),Ob 7 (.mov (.t 6)),Og 8 7 true (.mov (.t 1)),Og 9 7 true (.call 98 [(.t 8)]),Og 10 7 true (.not (.t 9)),Ob 11 (.pick (.t 7) (.t 10) (.c (.bool false))),Ob 12 (.mov (.t 11)),Og 13 12 false (.mov (.t 0)),Og 14 12 false (.mov (.t 1)),Og 15 12 false (.bin .lss (.t 13) (.t 14)),Ob 16 (.pick (.t 12) (.c (.bool true)) (.t 15)),Ob 4 (.mov (.t 16))])
 (.ret))
def r85 : List Res := [.t 4]
def a85 : AFn := ⟨2, c85, r85,.v⟩

def c86 : ACode := .seq (.region [Ob 8 (.mov (Ci 0))])
 (.seq (.region [Ob 11 (.mov (.t 0)),Ob 12 (.mov (.t 1)),Ob 13 (.mov (.t 0)),Ob 14 (.mov (.t 3)),Ob 15 (.mov (.t 0)),Ob 16 (.mov (.t 3)),Ob 17 (.idx (.t 15) (.t 16) 1),Ob 18 (.load (.t 17) none),Ob 19 (.mov (.t 0)),Ob 20 (.mov (.t 1)),Ob 21 (.idx (.t 19) (.t 20) 1),Ob 22 (.load (.t 21) none),Ob 23 (.idx (.t 11) (.t 12) 1),On (.store (.t 23) (.t 18) 1),Ob 24 (.idx (.t 13) (.t 14) 1),On (.store (.t 24) (.t 22) 1)])
 (.seq (.region [Ob 25 (.mov (.t 1)),Ob 26 (.bin .add (.t 25) (Ci 1)),Ob 27 (.mov (.t 2)),Ob 28 (.bin .sub (.t 27) (Ci 1)),Ob 9 (.mov (.t 26)),Ob 10 (.mov (.t 28))])
 (.seq (.block 0 (.loop (.block 1 (.seq (.block 2 (.loop (.seq (.seq (.region [Ob 29 (.mov (.t 9)),Ob 30 (.mov (.t 10)),Ob 31 (.bin .leq (.t 29) (.t 30)),Ob 32 (.mov (.t 31)),Og 33 32 true (.mov (.t 0)),Og 34 32 true (.mov (.t 1)),Og 35 32 true (.idx (.t 33) (.t 34) 1),Og 36 32 true (.load (.t 35) none),Og 37 32 true (.mov (.t 0)),Og 38 32 true (.mov (.t 9)),Og 39 32 true (.idx (.t 37) (.t 38) 1),Og 40 32 true (.load (.t 39) none),Og 41 32 true (.call 85 [(.t 36), (.t 40)]),Og 42 32 true (.not (.t 41)),Ob 43 (.pick (.t 32) (.t 42) (.c (.bool false)))])
 (.cond (.t 43) (.skip)
 (.exit 2)))
 (.block 3 (.region [Ob 44 (.mov (.t 9)),Ob 45 (.bin .add (.t 44) (Ci 1)),Ob 9 (.mov (.t 45))])))))
 (.seq (.block 4 (.loop (.seq (.seq (.region [Ob 46 (.mov (.t 9)),Ob 47 (.mov (.t 10)),Ob 48 (.bin .leq (.t 46) (.t 47)),Ob 49 (.mov (.t 48)),Og 50 49 true (.mov (.t 0)),Og 51 49 true (.mov (.t 1)),Og 52 49 true (.idx (.t 50) (.t 51) 1),Og 53 49 true (.load (.t 52) none),Og 54 49 true (.mov (.t 0)),Og 55 49 true (.mov (.t 10)),Og 56 49 true (.idx (.t 54) (.t 55) 1),Og 57 49 true (.load (.t 56) none),Og 58 49 true (.call 85 [(.t 53), (.t 57)]),Ob 59 (.pick (.t 49) (.t 58) (.c (.bool false)))])
 (.cond (.t 59) (.skip)
 (.exit 4)))
 (.block 5 (.region [Ob 60 (.mov (.t 10)),Ob 61 (.bin .sub (.t 60) (Ci 1)),Ob 10 (.mov (.t 61))])))))
 (.seq (.seq (.region [Ob 62 (.mov (.t 9)),Ob 63 (.mov (.t 10)),Ob 64 (.bin .gtr (.t 62) (.t 63))])
 (.cond (.t 64) (.exit 0)
 (.skip)))
 (.seq (.region [Ob 65 (.mov (.t 0)),Ob 66 (.mov (.t 9)),Ob 67 (.mov (.t 0)),Ob 68 (.mov (.t 10)),Ob 69 (.mov (.t 0)),Ob 70 (.mov (.t 10)),Ob 71 (.idx (.t 69) (.t 70) 1),Ob 72 (.load (.t 71) none),Ob 73 (.mov (.t 0)),Ob 74 (.mov (.t 9)),Ob 75 (.idx (.t 73) (.t 74) 1),Ob 76 (.load (.t 75) none),Ob 77 (.idx (.t 65) (.t 66) 1),On (.store (.t 77) (.t 72) 1),Ob 78 (.idx (.t 67) (.t 68) 1),On (.store (.t 78) (.t 76) 1)])
 (.seq (.region [Ob 79 (.mov (.t 9)),Ob 80 (.bin .add (.t 79) (Ci 1)),Ob 9 (.mov (.t 80))])
 (.region [Ob 81 (.mov (.t 10)),Ob 82 (.bin .sub (.t 81) (Ci 1)),Ob 10 (.mov (.t 82))])))))))))
 (.seq (.region [Ob 83 (.mov (.t 9)),Ob 8 (.mov (.t 83))])
 (.ret)))))
def r86 : List Res := [.t 8]
def a86 : AFn := ⟨4, c86, r86,.r⟩

def c87 : ACode := .seq (.region [Ob 8 (.mov (Ci 0)),Ob 9 (.mov (.c (.bool false)))])
 (.seq (.region [Ob 12 (.mov (.t 0)),Ob 13 (.mov (.t 1)),Ob 14 (.mov (.t 0)),Ob 15 (.mov (.t 3)),Ob 16 (.mov (.t 0)),Ob 17 (.mov (.t 3)),Ob 18 (.idx (.t 16) (.t 17) 1),Ob 19 (.load (.t 18) none),Ob 20 (.mov (.t 0)),Ob 21 (.mov (.t 1)),Ob 22 (.idx (.t 20) (.t 21) 1),Ob 23 (.load (.t 22) none),Ob 24 (.idx (.t 12) (.t 13) 1),On (.store (.t 24) (.t 19) 1),Ob 25 (.idx (.t 14) (.t 15) 1),On (.store (.t 25) (.t 23) 1)])
 (.seq (.region [Ob 26 (.mov (.t 1)),Ob 27 (.bin .add (.t 26) (Ci 1)),Ob 28 (.mov (.t 2)),Ob 29 (.bin .sub (.t 28) (Ci 1)),Ob 10 (.mov (.t 27)),Ob 11 (.mov (.t 29))])
 (.seq (.block 0 (.loop (.seq (.seq (.region [Ob 30 (.mov (.t 10)),Ob 31 (.mov (.t 11)),Ob 32 (.bin .leq (.t 30) (.t 31)),Ob 33 (.mov (.t 32)),Og 34 33 true (.mov (.t 0)),Og 35 33 true (.mov (.t 10)),Og 36 33 true (.idx (.t 34) (.t 35) 1),Og 37 33 true (.load (.t 36) none),Og 38 33 true (.mov (.t 0)),Og 39 33 true (.mov (.t 1)),Og 40 33 true (.idx (.t 38) (.t 39) 1),Og 41 33 true (.load (.t 40) none),Og 42 33 true (.call 85 [(.t 37), (.t 41)]),Ob 43 (.pick (.t 33) (.t 42) (.c (.bool false)))])
 (.cond (.t 43) (.skip)
 (.exit 0)))
 (.block 1 (.region [Ob 44 (.mov (.t 10)),Ob 45 (.bin .add (.t 44) (Ci 1)),Ob 10 (.mov (.t 45))])))))
 (.seq (.block 2 (.loop (.seq (.seq (.region [Ob 46 (.mov (.t 10)),Ob 47 (.mov (.t 11)),Ob 48 (.bin .leq (.t 46) (.t 47)),Ob 49 (.mov (.t 48)),Og 50 49 true (.mov (.t 0)),Og 51 49 true (.mov (.t 11)),Og 52 49 true (.idx (.t 50) (.t 51) 1),Og 53 49 true (.load (.t 52) none),Og 54 49 true (.mov (.t 0)),Og 55 49 true (.mov (.t 1)),Og 56 49 true (.idx (.t 54) (.t 55) 1),Og 57 49 true (.load (.t 56) none),Og 58 49 true (.call 85 [(.t 53), (.t 57)]),Og 59 49 true (.not (.t 58)),Ob 60 (.pick (.t 49) (.t 59) (.c (.bool false)))])
 (.cond (.t 60) (.skip)
 (.exit 2)))
 (.block 3 (.region [Ob 61 (.mov (.t 11)),Ob 62 (.bin .sub (.t 61) (Ci 1)),Ob 11 (.mov (.t 62))])))))
 (.seq (.seq (.region [Ob 63 (.mov (.t 10)),Ob 64 (.mov (.t 11)),Ob 65 (.bin .gtr (.t 63) (.t 64))])
 (.cond (.t 65) (.seq (.region [Ob 66 (.mov (.t 0)),Ob 67 (.mov (.t 11)),Ob 68 (.mov (.t 0)),Ob 69 (.mov (.t 1)),Ob 70 (.mov (.t 0)),Ob 71 (.mov (.t 1)),Ob 72 (.idx (.t 70) (.t 71) 1),Ob 73 (.load (.t 72) none),Ob 74 (.mov (.t 0)),Ob 75 (.mov (.t 11)),Ob 76 (.idx (.t 74) (.t 75) 1),Ob 77 (.load (.t 76) none),Ob 78 (.idx (.t 66) (.t 67) 1),On (.store (.t 78) (.t 73) 1),Ob 79 (.idx (.t 68) (.t 69) 1),On (.store (.t 79) (.t 77) 1)])
 (.seq (.region [Ob 80 (.mov (.t 11)),Ob 8 (.mov (.t 80)),Ob 9 (.mov (.c (.bool true)))])
 (.ret)))
 (.skip)))
 (.seq (.region [Ob 81 (.mov (.t 0)),Ob 82 (.mov (.t 10)),Ob 83 (.mov (.t 0)),Ob 84 (.mov (.t 11)),Ob 85 (.mov (.t 0)),Ob 86 (.mov (.t 11)),Ob 87 (.idx (.t 85) (.t 86) 1),Ob 88 (.load (.t 87) none),Ob 89 (.mov (.t 0)),Ob 90 (.mov (.t 10)),Ob 91 (.idx (.t 89) (.t 90) 1),Ob 92 (.load (.t 91) none),Ob 93 (.idx (.t 81) (.t 82) 1),On (.store (.t 93) (.t 88) 1),Ob 94 (.idx (.t 83) (.t 84) 1),On (.store (.t 94) (.t 92) 1)])
 (.seq (.region [Ob 95 (.mov (.t 10)),Ob 96 (.bin .add (.t 95) (Ci 1)),Ob 10 (.mov (.t 96))])
 (.seq (.region [Ob 97 (.mov (.t 11)),Ob 98 (.bin .sub (.t 97) (Ci 1)),Ob 11 (.mov (.t 98))])
 (.seq (.block 4 (.loop (.block 5 (.seq (.block 6 (.loop (.seq (.seq (.region [Ob 99 (.mov (.t 10)),Ob 100 (.mov (.t 11)),Ob 101 (.bin .leq (.t 99) (.t 100)),Ob 102 (.mov (.t 101)),Og 103 102 true (.mov (.t 0)),Og 104 102 true (.mov (.t 10)),Og 105 102 true (.idx (.t 103) (.t 104) 1),Og 106 102 true (.load (.t 105) none),Og 107 102 true (.mov (.t 0)),Og 108 102 true (.mov (.t 1)),Og 109 102 true (.idx (.t 107) (.t 108) 1),Og 110 102 true (.load (.t 109) none),Og 111 102 true (.call 85 [(.t 106), (.t 110)]),Ob 112 (.pick (.t 102) (.t 111) (.c (.bool false)))])
 (.cond (.t 112) (.skip)
 (.exit 6)))
 (.block 7 (.region [Ob 113 (.mov (.t 10)),Ob 114 (.bin .add (.t 113) (Ci 1)),Ob 10 (.mov (.t 114))])))))
 (.seq (.block 8 (.loop (.seq (.seq (.region [Ob 115 (.mov (.t 10)),Ob 116 (.mov (.t 11)),Ob 117 (.bin .leq (.t 115) (.t 116)),Ob 118 (.mov (.t 117)),Og 119 118 true (.mov (.t 0)),Og 120 118 true (.mov (.t 11)),Og 121 118 true (.idx (.t 119) (.t 120) 1),Og 122 118 true (.load (.t 121) none),Og 123 118 true (.mov (.t 0)),Og 124 118 true (.mov (.t 1)),Og 125 118 true (.idx (.t 123) (.t 124) 1),Og 126 118 true (.load (.t 125) none),Og 127 118 true (.call 85 [(.t 122), (.t 126)]),Og 128 118 true (.not (.t 127)),Ob 129 (.pick (.t 118) (.t 128) (.c (.bool false)))])
 (.cond (.t 129) (.skip)
 (.exit 8)))
 (.block 9 (.region [Ob 130 (.mov (.t 11)),Ob 131 (.bin .sub (.t 130) (Ci 1)),Ob 11 (.mov (.t 131))])))))
 (.seq (.seq (.region [Ob 132 (.mov (.t 10)),Ob 133 (.mov (.t 11)),Ob 134 (.bin .gtr (.t 132) (.t 133))])
 (.cond (.t 134) (.exit 4)
 (.skip)))
 (.seq (.region [Ob 135 (.mov (.t 0)),Ob 136 (.mov (.t 10)),Ob 137 (.mov (.t 0)),Ob 138 (.mov (.t 11)),Ob 139 (.mov (.t 0)),Ob 140 (.mov (.t 11)),Ob 141 (.idx (.t 139) (.t 140) 1),Ob 142 (.load (.t 141) none),Ob 143 (.mov (.t 0)),Ob 144 (.mov (.t 10)),Ob 145 (.idx (.t 143) (.t 144) 1),Ob 146 (.load (.t 145) none),Ob 147 (.idx (.t 135) (.t 136) 1),On (.store (.t 147) (.t 142) 1),Ob 148 (.idx (.t 137) (.t 138) 1),On (.store (.t 148) (.t 146) 1)])
 (.seq (.region [Ob 149 (.mov (.t 10)),Ob 150 (.bin .add (.t 149) (Ci 1)),Ob 10 (.mov (.t 150))])
 (.region [Ob 151 (.mov (.t 11)),Ob 152 (.bin .sub (.t 151) (Ci 1)),Ob 11 (.mov (.t 152))])))))))))
 (.seq (.region [Ob 153 (.mov (.t 0)),Ob 154 (.mov (.t 11)),Ob 155 (.mov (.t 0)),Ob 156 (.mov (.t 1)),Ob 157 (.mov (.t 0)),Ob 158 (.mov (.t 1)),Ob 159 (.idx (.t 157) (.t 158) 1),Ob 160 (.load (.t 159) none),Ob 161 (.mov (.t 0)),Ob 162 (.mov (.t 11)),Ob 163 (.idx (.t 161) (.t 162) 1),Ob 164 (.load (.t 163) none),Ob 165 (.idx (.t 153) (.t 154) 1),On (.store (.t 165) (.t 160) 1),Ob 166 (.idx (.t 155) (.t 156) 1),On (.store (.t 166) (.t 164) 1)])
 (.seq (.region [Ob 167 (.mov (.t 11)),Ob 8 (.mov (.t 167)),Ob 9 (.mov (.c (.bool false)))])
 (.ret))))))))))))
def r87 : List Res := [.t 8,.t 9]
def a87 : AFn := ⟨4, c87, r87,.r⟩

def c88 : ACode := .seq (.region [Ob 2 (.mov (Ci 0))])
 (.seq (.seq (.region [Ob 3 (.mov (.t 0)),Ob 4 (.bin .geq (.t 3) (.c (.int .u32 65536)))])
 (.cond (.t 4) (.seq (.region [Ob 5 (.mov (.t 0)),Ob 6 (.bin .shr (.t 5) (.c (.int .u64 16))),Ob 0 (.mov (.t 6))])
 (.region [Ob 2 (.mov (Ci 16))]))
 (.skip)))
 (.seq (.seq (.region [Ob 7 (.mov (.t 0)),Ob 8 (.bin .geq (.t 7) (.c (.int .u32 256)))])
 (.cond (.t 8) (.seq (.region [Ob 9 (.mov (.t 0)),Ob 10 (.bin .shr (.t 9) (.c (.int .u64 8))),Ob 0 (.mov (.t 10))])
 (.region [Ob 11 (.mov (.t 2)),Ob 12 (.bin .add (.t 11) (Ci 8)),Ob 2 (.mov (.t 12))]))
 (.skip)))
 (.seq (.region [Ob 13 (.mov (.t 2)),Ob 14 (.mov (.t 0)),Ob 15 (.conv .u8 (.t 14)),⟨some 16,none,.sidx (.c (.str ⟨#[0, 1, 2, 2, 3, 3, 3, 3, 4, 4, 4, 4, 4, 4, 4, 4, 5, 5, 5, 5, 5, 5, 5, 5, 5, 5, 5, 5, 5, 5, 5, 5, 6, 6, 6, 6, 6, 6, 6, 6, 6, 6, 6, 6, 6, 6, 6, 6, 6, 6, 6, 6, 6, 6, 6, 6, 6, 6, 6, 6, 6, 6, 6, 6, 7, 7, 7, 7, 7, 7, 7, 7, 7, 7, 7, 7, 7, 7, 7, 7, 7, 7, 7, 7, 7, 7, 7, 7, 7, 7, 7, 7, 7, 7, 7, 7, 7, 7, 7, 7, 7, 7, 7, 7, 7, 7, 7, 7, 7, 7, 7, 7, 7, 7, 7, 7, 7, 7, 7, 7, 7, 7, 7, 7, 7, 7, 7, 7, 8, 8, 8, 8, 8, 8, 8, 8, 8, 8, 8, 8, 8, 8, 8, 8, 8, 8, 8, 8, 8, 8, 8, 8, 8, 8, 8, 8, 8, 8, 8, 8, 8, 8, 8, 8, 8, 8, 8, 8, 8, 8, 8, 8, 8, 8, 8, 8, 8, 8, 8, 8, 8, 8, 8, 8, 8, 8, 8, 8, 8, 8, 8, 8, 8, 8, 8, 8, 8, 8, 8, 8, 8, 8, 8, 8, 8, 8, 8, 8, 8, 8, 8, 8, 8, 8, 8, 8, 8, 8, 8, 8, 8, 8, 8, 8, 8, 8, 8, 8, 8, 8, 8, 8, 8, 8, 8, 8, 8, 8, 8, 8, 8, 8, 8, 8, 8, 8, 8, 8, 8, 8, 8, 8, 8, 8, 8, 8]⟩)) (.t 15)⟩,Ob 17 (.conv .i64 (.t 16)),Ob 18 (.bin .add (.t 13) (.t 17)),Ob 2 (.mov (.t 18))])
 (.ret))))
def r88 : List Res := [.t 2]
def a88 : AFn := ⟨1, c88, r88,.v⟩

def c89 : ACode := .seq (.region [Ob 2 (.mov (Ci 0))])
 (.seq (.seq (.region [Ob 3 (.mov (.t 0)),Ob 4 (.bin .geq (.t 3) (.c (.int .u64 4294967296)))])
 (.cond (.t 4) (.seq (.region [Ob 5 (.mov (.t 0)),Ob 6 (.bin .shr (.t 5) (.c (.int .u64 32))),Ob 0 (.mov (.t 6))])
 (.region [Ob 2 (.mov (Ci 32))]))
 (.skip)))
 (.seq (.seq (.region [Ob 7 (.mov (.t 0)),Ob 8 (.bin .geq (.t 7) (.c (.int .u64 65536)))])
 (.cond (.t 8) (.seq (.region [Ob 9 (.mov (.t 0)),Ob 10 (.bin .shr (.t 9) (.c (.int .u64 16))),Ob 0 (.mov (.t 10))])
 (.region [Ob 11 (.mov (.t 2)),Ob 12 (.bin .add (.t 11) (Ci 16)),Ob 2 (.mov (.t 12))]))
 (.skip)))
 (.seq (.seq (.region [Ob 13 (.mov (.t 0)),Ob 14 (.bin .geq (.t 13) (.c (.int .u64 256)))])
 (.cond (.t 14) (.seq (.region [Ob 15 (.mov (.t 0)),Ob 16 (.bin .shr (.t 15) (.c (.int .u64 8))),Ob 0 (.mov (.t 16))])
 (.region [Ob 17 (.mov (.t 2)),Ob 18 (.bin .add (.t 17) (Ci 8)),Ob 2 (.mov (.t 18))]))
 (.skip)))
 (.seq (.region [Ob 19 (.mov (.t 2)),Ob 20 (.mov (.t 0)),Ob 21 (.conv .u8 (.t 20)),⟨some 22,none,.sidx (.c (.str ⟨#[0, 1, 2, 2, 3, 3, 3, 3, 4, 4, 4, 4, 4, 4, 4, 4, 5, 5, 5, 5, 5, 5, 5, 5, 5, 5, 5, 5, 5, 5, 5, 5, 6, 6, 6, 6, 6, 6, 6, 6, 6, 6, 6, 6, 6, 6, 6, 6, 6, 6, 6, 6, 6, 6, 6, 6, 6, 6, 6, 6, 6, 6, 6, 6, 7, 7, 7, 7, 7, 7, 7, 7, 7, 7, 7, 7, 7, 7, 7, 7, 7, 7, 7, 7, 7, 7, 7, 7, 7, 7, 7, 7, 7, 7, 7, 7, 7, 7, 7, 7, 7, 7, 7, 7, 7, 7, 7, 7, 7, 7, 7, 7, 7, 7, 7, 7, 7, 7, 7, 7, 7, 7, 7, 7, 7, 7, 7, 7, 8, 8, 8, 8, 8, 8, 8, 8, 8, 8, 8, 8, 8, 8, 8, 8, 8, 8, 8, 8, 8, 8, 8, 8, 8, 8, 8, 8, 8, 8, 8, 8, 8, 8, 8, 8, 8, 8, 8, 8, 8, 8, 8, 8, 8, 8, 8, 8, 8, 8, 8, 8, 8, 8, 8, 8, 8, 8, 8, 8, 8, 8, 8, 8, 8, 8, 8, 8, 8, 8, 8, 8, 8, 8, 8, 8, 8, 8, 8, 8, 8, 8, 8, 8, 8, 8, 8, 8, 8, 8, 8, 8, 8, 8, 8, 8, 8, 8, 8, 8, 8, 8, 8, 8, 8, 8, 8, 8, 8, 8, 8, 8, 8, 8, 8, 8, 8, 8, 8, 8, 8, 8, 8, 8, 8, 8, 8, 8]⟩)) (.t 21)⟩,Ob 23 (.conv .i64 (.t 22)),Ob 24 (.bin .add (.t 19) (.t 23)),Ob 2 (.mov (.t 24))])
 (.ret)))))
def r89 : List Res := [.t 2]
def a89 : AFn := ⟨1, c89, r89,.v⟩

def c90 : ACode := .seq (.region [Ob 8 (.load (.t 1) none),Ob 9 (.addr (.t 8) 0),Ob 10 (.addr (.t 9) 2),Ob 11 (.load (.t 10) none),Ob 12 (.len (.t 11)),Ob 13 (.mov (Ci 0))])
 (.block 0 (.loop (.seq (.region [Ob 14 (.bin .lss (.t 13) (.t 12))])
 (.seq (.cond (.t 14) (.skip)
 (.exit 0))
 (.seq (.block 1 (.seq (.region [Ob 15 (.mov (.t 13)),Ob 16 (.idx (.t 11) (.t 13) 1),Ob 17 (.load (.t 16) none),Ob 4 (.mov (.t 15)),Ob 5 (.mov (.t 17))])
 (.seq (.skip)
 (.seq (.region [Ob 18 (.mov (.t 5)),Ob 19 (.len (.t 18)),Ob 20 (.load (.t 2) none),Ob 21 (.bin .sub (.t 19) (.t 20)),Ob 22 (.bin .add (.t 21) (Ci 1)),Ob 23 (.mov (Ci 0))])
 (.block 2 (.loop (.seq (.region [Ob 24 (.bin .lss (.t 23) (.t 22))])
 (.seq (.cond (.t 24) (.skip)
 (.exit 2))
 (.seq (.block 3 (.seq (.region [Ob 25 (.mov (.t 23)),Ob 6 (.mov (.t 25))])
 (.seq (.seq (.region [Ob 26 (.load (.t 2) none),Ob 27 (.mov (Ci 0))])
 (.block 4 (.loop (.seq (.region [Ob 28 (.bin .lss (.t 27) (.t 26))])
 (.seq (.cond (.t 28) (.skip)
 (.exit 4))
 (.seq (.block 5 (.seq (.region [Ob 29 (.mov (.t 27)),Ob 7 (.mov (.t 29))])
 (.seq (.region [Ob 30 (.mov (.t 5)),Ob 31 (.mov (.t 6)),Ob 32 (.mov (.t 7)),Ob 33 (.bin .add (.t 31) (.t 32)),Ob 34 (.idx (.t 30) (.t 33) 1),Ob 35 (.load (.t 34) none),Ob 36 (.bin .neq (.t 35) (Ci (-1)))])
 (.cond (.t 36) (.exit 3)
 (.skip)))))
 (.region [Ob 37 (.bin .add (.t 27) (Ci 1)),Ob 27 (.mov (.t 37))])))))))
 (.seq (.region [Ob 38 (.mov (.t 0)),Ob 39 (.mov (.t 4)),Ob 40 (.mov (.t 6)),Ob 41 (.callv (.t 38) [(.t 39), (.t 40)]),Ob 42 (.not (.t 41))])
 (.cond (.t 42) (.ret)
 (.skip))))))
 (.region [Ob 43 (.bin .add (.t 23) (Ci 1)),Ob 23 (.mov (.t 43))]))))))))))
 (.region [Ob 44 (.bin .add (.t 13) (Ci 1)),Ob 13 (.mov (.t 44))]))))))
def r90 : List Res := []
def a90 : AFn := ⟨3, c90, r90,.v⟩

def c91 : ACode := .seq (.region [Ob 3 (.mov (.c (.bool false)))])
 (.seq (.region [Ob 4 (.mov (.t 0)),Ob 5 (.bin .leq (Ci 0) (.t 4)),Ob 6 (.mov (.t 5)),Og 7 6 true (.mov (.t 0)),Og 8 6 true (.load (.t 1) none),Og 9 6 true (.len (.t 8)),Og 10 6 true (.bin .lss (.t 7) (.t 9)),Ob 11 (.pick (.t 6) (.t 10) (.c (.bool false))),Ob 12 (.mov (.t 11)),Og 13 12 true (.load (.t 1) none),Og 14 12 true (.mov (.t 0)),Og 15 12 true (.idx (.t 13) (.t 14) 1),Og 16 12 true (.load (.t 15) none),Og 17 12 true (.bin .eql (.t 16) (Ci (-1))),Ob 18 (.pick (.t 12) (.t 17) (.c (.bool false))),Ob 3 (.mov (.t 18))])
 (.ret))
def r91 : List Res := [.t 3]
def a91 : AFn := ⟨2, c91, r91,.v⟩

def c92 : ACode := .seq (.region [Ob 4 (.mov (Ci 0))])
 (.seq (.seq (.region [Ob 6 (.mov (.t 0)),Ob 7 (.len (.t 6)),Ob 8 (.mov (Ci 0))])
 (.block 0 (.loop (.seq (.region [Ob 9 (.bin .lss (.t 8) (.t 7))])
 (.seq (.cond (.t 9) (.skip)
 (.exit 0))
 (.seq (.block 1 (.seq (.region [Ob 10 (.mov (.t 8)),Ob 5 (.mov (.t 10))])
 (.seq (.region [Ob 11 (.mov (.t 1)),Ob 12 (.mov (.t 0)),Ob 13 (.mov (.t 5)),Ob 14 (.idx (.t 12) (.t 13) 1),Ob 15 (.load (.t 14) none),Ob 16 (.callv (.t 11) [(.t 15)])])
 (.cond (.t 16) (.seq (.region [Ob 17 (.mov (.t 5)),Ob 4 (.mov (.t 17))])
 (.ret))
 (.skip)))))
 (.region [Ob 18 (.bin .add (.t 8) (Ci 1)),Ob 8 (.mov (.t 18))])))))))
 (.seq (.region [Ob 4 (.mov (Ci (-1)))])
 (.ret)))
def r92 : List Res := [.t 4]
def a92 : AFn := ⟨2, c92, r92,.v⟩

def c93 : ACode := .seq (.region [Ob 3 (.box (.t 1) 1),Ob 4 (.mov (.c (.bool false)))])
 (.seq (.region [Ob 5 (.mov (.t 0)),Ob 6 (.clo 106 [] [(.t 3)]),Ob 7 (.call 105 [(.t 5), (.t 6)]),Ob 8 (.not (.t 7)),Ob 4 (.mov (.t 8))])
 (.ret))
def r93 : List Res := [.t 4]
def a93 : AFn := ⟨2, c93, r93,.v⟩

def c94 : ACode := .seq (.region [Ob 1 (.box (.t 0) 5),Ob 2 (.mov (.c (.bool false)))])
 (.seq (.region [Ob 3 (.addr (.t 1) 0),Ob 4 (.load (.t 3) none),Ob 5 (.call 35 [(.t 4)]),Ob 6 (.mov (.t 5)),Og 7 6 true (.addr (.t 1) 3),Og 8 6 true (.load (.t 7) none),Og 9 6 true (.call 35 [(.t 8)]),Ob 10 (.pick (.t 6) (.t 9) (.c (.bool false))),Ob 11 (.mov (.t 10)),Og 12 11 true (.addr (.t 1) 1),Og 13 11 true (.load (.t 12) none),Og 14 11 true (.call 50 [(.t 13)]),Ob 15 (.pick (.t 11) (.t 14) (.c (.bool false))),Ob 16 (.mov (.t 15)),Og 17 16 true (.load (.t 1) (some 5)),Og 18 16 true (.call 107 [(.t 17)]),Ob 19 (.pick (.t 16) (.t 18) (.c (.bool false))),Ob 2 (.mov (.t 19))])
 (.ret))
def r94 : List Res := [.t 2]
def a94 : AFn := ⟨1, c94, r94,.v⟩

def c95 : ACode := .seq (.region [Ob 4 (.mov (.c (.int .u32 0))),Ob 5 (.mov (.c (.int .u32 0)))])
 (.seq (.region [Ob 7 (.mov (.t 0)),Ob 8 (.conv .u64 (.t 7)),Ob 9 (.mov (.t 1)),Ob 10 (.conv .u64 (.t 9)),Ob 11 (.bin .mul (.t 8) (.t 10)),Ob 6 (.mov (.t 11))])
 (.seq (.region [Ob 12 (.mov (.t 6)),Ob 13 (.bin .shr (.t 12) (.c (.int .u64 32))),Ob 14 (.conv .u32 (.t 13)),Ob 15 (.mov (.t 6)),Ob 16 (.conv .u32 (.t 15)),Ob 4 (.mov (.t 14)),Ob 5 (.mov (.t 16))])
 (.ret)))
def r95 : List Res := [.t 4,.t 5]
def a95 : AFn := ⟨2, c95, r95,.v⟩

def c96 : ACode := .seq (.region [Ob 4 (.mov (.c (.int .u64 0))),Ob 5 (.mov (.c (.int .u64 0)))])
 (.seq (.region [Ob 14 (.mov (.t 0)),Ob 15 (.bin .and (.t 14) (.c (.int .u64 4294967295))),Ob 6 (.mov (.t 15))])
 (.seq (.region [Ob 16 (.mov (.t 0)),Ob 17 (.bin .shr (.t 16) (.c (.int .u64 32))),Ob 7 (.mov (.t 17))])
 (.seq (.region [Ob 18 (.mov (.t 1)),Ob 19 (.bin .and (.t 18) (.c (.int .u64 4294967295))),Ob 8 (.mov (.t 19))])
 (.seq (.region [Ob 20 (.mov (.t 1)),Ob 21 (.bin .shr (.t 20) (.c (.int .u64 32))),Ob 9 (.mov (.t 21))])
 (.seq (.region [Ob 22 (.mov (.t 6)),Ob 23 (.mov (.t 8)),Ob 24 (.bin .mul (.t 22) (.t 23)),Ob 10 (.mov (.t 24))])
 (.seq (.region [Ob 25 (.mov (.t 7)),Ob 26 (.mov (.t 8)),Ob 27 (.bin .mul (.t 25) (.t 26)),Ob 28 (.mov (.t 10)),Ob 29 (.bin .shr (.t 28) (.c (.int .u64 32))),Ob 30 (.bin .add (.t 27) (.t 29)),Ob 11 (.mov (.t 30))])
 (.seq (.region [Ob 31 (.mov (.t 11)),Ob 32 (.bin .and (.t 31) (.c (.int .u64 4294967295))),Ob 12 (.mov (.t 32))])
 (.seq (.region [Ob 33 (.mov (.t 11)),Ob 34 (.bin .shr (.t 33) (.c (.int .u64 32))),Ob 13 (.mov (.t 34))])
 (.seq (.region [Ob 35 (.mov (.t 12)),Ob 36 (.mov (.t 6)),Ob 37 (.mov (.t 9)),Ob 38 (.bin .mul (.t 36) (.t 37)),Ob 39 (.bin .add (.t 35) (.t 38)),Ob 12 (.mov (.t 39))])
 (.seq (.region [Ob 40 (.mov (.t 7)),Ob 41 (.mov (.t 9)),Ob 42 (.bin .mul (.t 40) (.t 41)),Ob 43 (.mov (.t 13)),Ob 44 (.bin .add (.t 42) (.t 43)),Ob 45 (.mov (.t 12)),Ob 46 (.bin .shr (.t 45) (.c (.int .u64 32))),Ob 47 (.bin .add (.t 44) (.t 46)),Ob 4 (.mov (.t 47))])
 (.seq (.region [Ob 48 (.mov (.t 0)),Ob 49 (.mov (.t 1)),Ob 50 (.bin .mul (.t 48) (.t 49)),Ob 5 (.mov (.t 50))])
 (.ret))))))))))))
def r96 : List Res := [.t 4,.t 5]
def a96 : AFn := ⟨2, c96, r96,.v⟩

def c97 : ACode := .seq (.region [Ob 10 (.mov (.c (.bool true)))])
 (.seq (.region [Ob 11 (.mov (.c (.bool true)))])
 (.block 0 (.loop (.block 1 (.seq (.region [Ob 21 (.mov (.t 2)),Ob 22 (.mov (.t 1)),Ob 23 (.bin .sub (.t 21) (.t 22)),Ob 12 (.mov (.t 23))])
 (.seq (.seq (.region [Ob 24 (.mov (.t 12)),Ob 25 (.bin .leq (.t 24) (Ci 12))])
 (.cond (.t 25) (.seq (.region [Ob 26 (.mov (.t 0)),Ob 27 (.mov (.t 1)),Ob 28 (.mov (.t 2)),Ob 29 (.mov (.t 4)),Ob 30 (.call 108 [(.t 26), (.t 27), (.t 28), (.t 29)])])
 (.ret))
 (.skip)))
 (.seq (.seq (.region [Ob 31 (.mov (.t 3)),Ob 32 (.bin .eql (.t 31) (Ci 0))])
 (.cond (.t 32) (.seq (.region [Ob 33 (.mov (.t 0)),Ob 34 (.mov (.t 1)),Ob 35 (.mov (.t 2)),Ob 36 (.mov (.t 4)),Ob 37 (.call 109 [(.t 33), (.t 34), (.t 35), (.t 36)])])
 (.ret))
 (.skip)))
 (.seq (.seq (.region [Ob 38 (.mov (.t 10)),Ob 39 (.not (.t 38))])
 (.cond (.t 39) (.seq (.region [Ob 40 (.mov (.t 0)),Ob 41 (.mov (.t 1)),Ob 42 (.mov (.t 2)),Ob 43 (.mov (.t 4)),Ob 44 (.call 110 [(.t 40), (.t 41), (.t 42), (.t 43)])])
 (.region [Ob 45 (.mov (.t 3)),Ob 46 (.bin .sub (.t 45) (Ci 1)),Ob 3 (.mov (.t 46))]))
 (.skip)))
 (.seq (.region [Ob 48 (.mov (.t 0)),Ob 49 (.mov (.t 1)),Ob 50 (.mov (.t 2)),Ob 51 (.mov (.t 4)),Ob 52 (.call 111 [(.t 48), (.t 49), (.t 50), (.t 51)]),Ob 47 (.mov (.t 52)),Ob 53 (.ext (.t 47) 0),Ob 54 (.ext (.t 47) 1),Ob 13 (.mov (.t 53)),Ob 14 (.mov (.t 54))])
 (.seq (.seq (.region [Ob 55 (.mov (.t 14)),Ob 56 (.bin .eql (.t 55) (Ci 2))])
 (.cond (.t 56) (.seq (.region [Ob 57 (.mov (.t 0)),Ob 58 (.mov (.t 1)),Ob 59 (.mov (.t 2)),Ob 60 (.mov (.t 4)),Ob 61 (.call 112 [(.t 57), (.t 58), (.t 59), (.t 60)])])
 (.seq (.region [Ob 62 (.mov (.t 2)),Ob 63 (.bin .sub (.t 62) (Ci 1)),Ob 64 (.mov (.t 13)),Ob 65 (.mov (.t 1)),Ob 66 (.bin .sub (.t 64) (.t 65)),Ob 67 (.bin .sub (.t 63) (.t 66)),Ob 13 (.mov (.t 67))])
 (.region [Ob 14 (.mov (Ci 1))])))
 (.skip)))
 (.seq (.seq (.region [Ob 68 (.mov (.t 10)),Ob 69 (.mov (.t 68)),Og 70 69 true (.mov (.t 11)),Ob 71 (.pick (.t 69) (.t 70) (.c (.bool false))),Ob 72 (.mov (.t 71)),Og 73 72 true (.mov (.t 14)),Og 74 72 true (.bin .eql (.t 73) (Ci 1)),Ob 75 (.pick (.t 72) (.t 74) (.c (.bool false)))])
 (.cond (.t 75) (.seq (.region [Ob 76 (.mov (.t 0)),Ob 77 (.mov (.t 1)),Ob 78 (.mov (.t 2)),Ob 79 (.mov (.t 4)),Ob 80 (.call 113 [(.t 76), (.t 77), (.t 78), (.t 79)])])
 (.cond (.t 80) (.ret)
 (.skip)))
 (.skip)))
 (.seq (.seq (.region [Ob 81 (.mov (.t 1)),Ob 82 (.bin .gtr (.t 81) (Ci 0)),Ob 83 (.mov (.t 82)),Og 84 83 true (.mov (.t 4)),Og 85 83 true (.mov (.t 0)),Og 86 83 true (.mov (.t 1)),Og 87 83 true (.bin .sub (.t 86) (Ci 1)),Og 88 83 true (.idx (.t 85) (.t 87) 5),Og 89 83 true (.load (.t 88) (some 5)),Og 90 83 true (.mov (.t 0)),Og 91 83 true (.mov (.t 13)),Og 92 83 true (.idx (.t 90) (.t 91) 5),Og 93 83 true (.load (.t 92) (some 5)),Og 94 83 true (.callv (.t 84) [(.t 89), (.t 93)]),Og 95 83 true (.bin .lss (.t 94) (Ci 0)),Og 96 83 true (.not (.t 95)),Ob 97 (.pick (.t 83) (.t 96) (.c (.bool false)))])
 (.cond (.t 97) (.seq (.region [Ob 98 (.mov (.t 0)),Ob 99 (.mov (.t 1)),Ob 100 (.mov (.t 2)),Ob 101 (.mov (.t 13)),Ob 102 (.mov (.t 4)),Ob 103 (.call 114 [(.t 98), (.t 99), (.t 100), (.t 101), (.t 102)]),Ob 15 (.mov (.t 103))])
 (.seq (.region [Ob 104 (.mov (.t 15)),Ob 1 (.mov (.t 104))])
 (.exit 1)))
 (.skip)))
 (.seq (.region [Ob 106 (.mov (.t 0)),Ob 107 (.mov (.t 1)),Ob 108 (.mov (.t 2)),Ob 109 (.mov (.t 13)),Ob 110 (.mov (.t 4)),Ob 111 (.call 115 [(.t 106), (.t 107), (.t 108), (.t 109), (.t 110)]),Ob 105 (.mov (.t 111)),Ob 112 (.ext (.t 105) 0),Ob 113 (.ext (.t 105) 1),Ob 16 (.mov (.t 112)),Ob 17 (.mov (.t 113))])
 (.seq (.region [Ob 114 (.mov (.t 17)),Ob 11 (.mov (.t 114))])
 (.seq (.region [Ob 115 (.mov (.t 16)),Ob 116 (.mov (.t 1)),Ob 117 (.bin .sub (.t 115) (.t 116)),Ob 118 (.mov (.t 2)),Ob 119 (.mov (.t 16)),Ob 120 (.bin .sub (.t 118) (.t 119)),Ob 18 (.mov (.t 117)),Ob 19 (.mov (.t 120))])
 (.seq (.region [Ob 121 (.mov (.t 12)),Ob 122 (.bin .quo (.t 121) (Ci 8)),Ob 20 (.mov (.t 122))])
 (.seq (.region [Ob 123 (.mov (.t 18)),Ob 124 (.mov (.t 19)),Ob 125 (.bin .lss (.t 123) (.t 124))])
 (.cond (.t 125) (.seq (.region [Ob 126 (.mov (.t 18)),Ob 127 (.mov (.t 20)),Ob 128 (.bin .geq (.t 126) (.t 127)),Ob 10 (.mov (.t 128))])
 (.seq (.region [Ob 129 (.mov (.t 0)),Ob 130 (.mov (.t 1)),Ob 131 (.mov (.t 16)),Ob 132 (.mov (.t 3)),Ob 133 (.mov (.t 4)),Ob 134 (.call 97 [(.t 129), (.t 130), (.t 131), (.t 132), (.t 133)])])
 (.region [Ob 135 (.mov (.t 16)),Ob 136 (.bin .add (.t 135) (Ci 1)),Ob 1 (.mov (.t 136))])))
 (.seq (.region [Ob 137 (.mov (.t 19)),Ob 138 (.mov (.t 20)),Ob 139 (.bin .geq (.t 137) (.t 138)),Ob 10 (.mov (.t 139))])
 (.seq (.region [Ob 140 (.mov (.t 0)),Ob 141 (.mov (.t 16)),Ob 142 (.bin .add (.t 141) (Ci 1)),Ob 143 (.mov (.t 2)),Ob 144 (.mov (.t 3)),Ob 145 (.mov (.t 4)),Ob 146 (.call 97 [(.t 140), (.t 142), (.t 143), (.t 144), (.t 145)])])
 (.region [Ob 147 (.mov (.t 16)),Ob 2 (.mov (.t 147))])))))))))))))))))))))
def r97 : List Res := []
def a97 : AFn := ⟨5, c97, r97,.r⟩

def c98 : ACode := .seq (.region [Ob 2 (.mov (.c (.bool false)))])
 (.seq (.region [Ob 3 (.mov (.t 0)),Ob 4 (.mov (.t 0)),Ob 5 (.bin .neq (.t 3) (.t 4)),Ob 2 (.mov (.t 5))])
 (.ret))
def r98 : List Res := [.t 2]
def a98 : AFn := ⟨1, c98, r98,.v⟩

def c99 : ACode := .seq (.region [Ob 4 (.box (.t 1) 4)])
 (.seq (.region [Ob 8 (.mov (.t 0)),Ob 9 (.addr (.t 8) 0),Ob 10 (.addr (.t 9) 2),Ob 11 (.load (.t 10) none),Ob 12 (.addr (.t 4) 1),Ob 13 (.load (.t 12) none),Ob 14 (.idx (.t 11) (.t 13) 1),Ob 15 (.load (.t 14) none),Ob 6 (.mov (.t 15))])
 (.seq (.region [Ob 16 (.addr (.t 4) 3),Ob 17 (.load (.t 16) none),Ob 18 (.mov (Ci 0))])
 (.block 0 (.loop (.seq (.region [Ob 19 (.bin .lss (.t 18) (.t 17))])
 (.seq (.cond (.t 19) (.skip)
 (.exit 0))
 (.seq (.block 1 (.seq (.region [Ob 20 (.mov (.t 18)),Ob 7 (.mov (.t 20))])
 (.region [Ob 21 (.mov (.t 6)),Ob 22 (.addr (.t 4) 2),Ob 23 (.load (.t 22) none),Ob 24 (.mov (.t 7)),Ob 25 (.bin .add (.t 23) (.t 24)),Ob 26 (.mov (.t 2)),Ob 27 (.idx (.t 21) (.t 25) 1),On (.store (.t 27) (.t 26) 1)])))
 (.region [Ob 28 (.bin .add (.t 18) (Ci 1)),Ob 18 (.mov (.t 28))]))))))))
def r99 : List Res := []
def a99 : AFn := ⟨3, c99, r99,.r⟩

def c100 : ACode := .seq (.region [Ob 10 (.mov (.t 1)),Ob 8 (.mov (.t 10))])
 (.block 0 (.loop (.block 1 (.seq (.region [Ob 11 (.mov (.t 8)),Ob 12 (.bin .mul (Ci 2) (.t 11)),Ob 13 (.bin .add (.t 12) (Ci 1)),Ob 9 (.mov (.t 13))])
 (.seq (.seq (.region [Ob 14 (.mov (.t 9)),Ob 15 (.mov (.t 2)),Ob 16 (.bin .geq (.t 14) (.t 15))])
 (.cond (.t 16) (.exit 0)
 (.skip)))
 (.seq (.seq (.region [Ob 17 (.mov (.t 9)),Ob 18 (.bin .add (.t 17) (Ci 1)),Ob 19 (.mov (.t 2)),Ob 20 (.bin .lss (.t 18) (.t 19)),Ob 21 (.mov (.t 20)),Og 22 21 true (.mov (.t 0)),Og 23 21 true (.mov (.t 3)),Og 24 21 true (.mov (.t 9)),Og 25 21 true (.bin .add (.t 23) (.t 24)),Og 26 21 true (.idx (.t 22) (.t 25) 1),Og 27 21 true (.load (.t 26) none),Og 28 21 true (.mov (.t 0)),Og 29 21 true (.mov (.t 3)),Og 30 21 true (.mov (.t 9)),Og 31 21 true (.bin .add (.t 29) (.t 30)),Og 32 21 true (.bin .add (.t 31) (Ci 1)),Og 33 21 true (.idx (.t 28) (.t 32) 1),Og 34 21 true (.load (.t 33) none),Og 35 21 true (.call 85 [(.t 27), (.t 34)]),Ob 36 (.pick (.t 21) (.t 35) (.c (.bool false)))])
 (.cond (.t 36) (.region [Ob 37 (.mov (.t 9)),Ob 38 (.bin .add (.t 37) (Ci 1)),Ob 9 (.mov (.t 38))])
 (.skip)))
 (.seq (.seq (.region [Ob 39 (.mov (.t 0)),Ob 40 (.mov (.t 3)),Ob 41 (.mov (.t 8)),Ob 42 (.bin .add (.t 40) (.t 41)),Ob 43 (.idx (.t 39) (.t 42) 1),Ob 44 (.load (.t 43) none),Ob 45 (.mov (.t 0)),Ob 46 (.mov (.t 3)),Ob 47 (.mov (.t 9)),Ob 48 (.bin .add (.t 46) (.t 47)),Ob 49 (.idx (.t 45) (.t 48) 1),Ob 50 (.load (.t 49) none),Ob 51 (.call 85 [(.t 44), (.t 50)]),Ob 52 (.not (.t 51))])
 (.cond (.t 52) (.ret)
 (.skip)))
 (.seq (.region [Ob 53 (.mov (.t 0)),Ob 54 (.mov (.t 3)),Ob 55 (.mov (.t 8)),Ob 56 (.bin .add (.t 54) (.t 55)),Ob 57 (.mov (.t 0)),Ob 58 (.mov (.t 3)),Ob 59 (.mov (.t 9)),Ob 60 (.bin .add (.t 58) (.t 59)),Ob 61 (.mov (.t 0)),Ob 62 (.mov (.t 3)),Ob 63 (.mov (.t 9)),Ob 64 (.bin .add (.t 62) (.t 63)),Ob 65 (.idx (.t 61) (.t 64) 1),Ob 66 (.load (.t 65) none),Ob 67 (.mov (.t 0)),Ob 68 (.mov (.t 3)),Ob 69 (.mov (.t 8)),Ob 70 (.bin .add (.t 68) (.t 69)),Ob 71 (.idx (.t 67) (.t 70) 1),Ob 72 (.load (.t 71) none),Ob 73 (.idx (.t 53) (.t 56) 1),On (.store (.t 73) (.t 66) 1),Ob 74 (.idx (.t 57) (.t 60) 1),On (.store (.t 74) (.t 72) 1)])
 (.region [Ob 75 (.mov (.t 9)),Ob 8 (.mov (.t 75))])))))))))
def r100 : List Res := []
def a100 : AFn := ⟨4, c100, r100,.r⟩

def c101 : ACode := .seq (.region [Ob 2 (.mov (.c (.int .u64 0)))])
 (.seq (.region [Ob 3 (.mov (.t 0)),Ob 4 (.conv .u64 (.t 3)),Ob 5 (.call 57 [(.t 4)]),Ob 6 (.bin .shl (.c (.int .u64 1)) (.t 5)),Ob 2 (.mov (.t 6))])
 (.ret))
def r101 : List Res := [.t 2]
def a101 : AFn := ⟨1, c101, r101,.v⟩

def c102 : ACode := .seq (.region [Ob 2 (.mov (.c (.int .u64 0)))])
 (.seq (.region [Ob 3 (.mov (.t 0)),Ob 4 (.addr (.t 3) 0),Ob 5 (.load (.t 4) none),Ob 6 (.mov (.t 0)),Ob 7 (.addr (.t 6) 0),Ob 8 (.load (.t 7) none),Ob 9 (.bin .shl (.t 8) (.c (.int .u64 13))),Ob 10 (.bin .xor (.t 5) (.t 9)),Ob 11 (.addr (.t 3) 0),On (.store (.t 11) (.t 10) 1)])
 (.seq (.region [Ob 12 (.mov (.t 0)),Ob 13 (.addr (.t 12) 0),Ob 14 (.load (.t 13) none),Ob 15 (.mov (.t 0)),Ob 16 (.addr (.t 15) 0),Ob 17 (.load (.t 16) none),Ob 18 (.bin .shr (.t 17) (.c (.int .u64 7))),Ob 19 (.bin .xor (.t 14) (.t 18)),Ob 20 (.addr (.t 12) 0),On (.store (.t 20) (.t 19) 1)])
 (.seq (.region [Ob 21 (.mov (.t 0)),Ob 22 (.addr (.t 21) 0),Ob 23 (.load (.t 22) none),Ob 24 (.mov (.t 0)),Ob 25 (.addr (.t 24) 0),Ob 26 (.load (.t 25) none),Ob 27 (.bin .shl (.t 26) (.c (.int .u64 17))),Ob 28 (.bin .xor (.t 23) (.t 27)),Ob 29 (.addr (.t 21) 0),On (.store (.t 29) (.t 28) 1)])
 (.seq (.region [Ob 30 (.mov (.t 0)),Ob 31 (.addr (.t 30) 0),Ob 32 (.load (.t 31) none),Ob 2 (.mov (.t 32))])
 (.ret)))))
def r102 : List Res := [.t 2]
def a102 : AFn := ⟨1, c102, r102,.r⟩

def c103 : ACode := .seq (.region [Ob 6 (.mov (Ci 0))])
 (.seq (.region [Ob 7 (.mov (.t 0)),Ob 8 (.mov (.t 1)),Ob 9 (.bin .sub (.t 8) (Ci 1)),Ob 10 (.mov (.t 1)),Ob 11 (.mov (.t 1)),Ob 12 (.bin .add (.t 11) (Ci 1)),Ob 13 (.mov (.t 2)),Ob 14 (.call 104 [(.t 7), (.t 9), (.t 10), (.t 12), (.t 13)]),Ob 6 (.mov (.t 14))])
 (.ret))
def r103 : List Res := [.t 6]
def a103 : AFn := ⟨3, c103, r103,.r⟩

def c104 : ACode := .seq (.region [Ob 10 (.mov (Ci 0))])
 (.seq (.region [Ob 12 (.mov (.t 0)),Ob 13 (.mov (.t 1)),Ob 14 (.mov (.t 2)),Ob 15 (.mov (.t 4)),Ob 16 (.call 116 [(.t 12), (.t 13), (.t 14), (.t 15)]),Ob 11 (.mov (.t 16)),Ob 17 (.ext (.t 11) 0),Ob 18 (.ext (.t 11) 1),Ob 1 (.mov (.t 17)),Ob 2 (.mov (.t 18))])
 (.seq (.region [Ob 20 (.mov (.t 0)),Ob 21 (.mov (.t 2)),Ob 22 (.mov (.t 3)),Ob 23 (.mov (.t 4)),Ob 24 (.call 116 [(.t 20), (.t 21), (.t 22), (.t 23)]),Ob 19 (.mov (.t 24)),Ob 25 (.ext (.t 19) 0),Ob 26 (.ext (.t 19) 1),Ob 2 (.mov (.t 25)),Ob 3 (.mov (.t 26))])
 (.seq (.region [Ob 28 (.mov (.t 0)),Ob 29 (.mov (.t 1)),Ob 30 (.mov (.t 2)),Ob 31 (.mov (.t 4)),Ob 32 (.call 116 [(.t 28), (.t 29), (.t 30), (.t 31)]),Ob 27 (.mov (.t 32)),Ob 33 (.ext (.t 27) 0),Ob 34 (.ext (.t 27) 1),Ob 1 (.mov (.t 33)),Ob 2 (.mov (.t 34))])
 (.seq (.region [Ob 35 (.mov (.t 2)),Ob 10 (.mov (.t 35))])
 (.ret)))))
def r104 : List Res := [.t 10]
def a104 : AFn := ⟨5, c104, r104,.r⟩

def c105 : ACode := .seq (.region [Ob 4 (.mov (.c (.bool false)))])
 (.seq (.region [Ob 5 (.mov (.t 0)),Ob 6 (.mov (.t 1)),Ob 7 (.call 117 [(.t 5), (.t 6)]),Ob 8 (.bin .geq (.t 7) (Ci 0)),Ob 4 (.mov (.t 8))])
 (.ret))
def r105 : List Res := [.t 4]
def a105 : AFn := ⟨2, c105, r105,.v⟩

def c106 : ACode := .seq (.region [Ob 2 (.box (.t 0) 5),Ob 3 (.mov (.c (.bool false)))])
 (.seq (.region [Ob 4 (.load (.t 1) none),Ob 5 (.load (.t 2) (some 5)),Ob 6 (.callv (.t 4) [(.t 5)]),Ob 7 (.not (.t 6)),Ob 3 (.mov (.t 7))])
 (.ret))
def r106 : List Res := [.t 3]
def a106 : AFn := ⟨2, c106, r106,.v⟩

def c107 : ACode := .seq (.region [Ob 1 (.box (.t 0) 5),Ob 2 (.mov (.c (.bool false)))])
 (.seq (.seq (.region [Ob 3 (.addr (.t 1) 2),Ob 4 (.load (.t 3) none)])
 (.block 0 (.seq (.region [Ob 6 (.bin .eql (.t 4) (Ci 1)),Ob 5 (.mov (.t 6))])
 (.cond (.t 5) (.seq (.region [Ob 7 (.addr (.t 1) 4),Ob 8 (.load (.t 7) none),Ob 9 (.call 39 [(.t 8)]),Ob 2 (.mov (.t 9))])
 (.ret))
 (.seq (.seq (.region [Ob 11 (.bin .eql (.t 4) (Ci 2)),Ob 10 (.mov (.t 11))])
 (.cond (.t 10) (.skip)
 (.region [Ob 12 (.bin .eql (.t 4) (Ci 3)),Ob 10 (.mov (.t 12))])))
 (.cond (.t 10) (.seq (.region [Ob 13 (.addr (.t 1) 4),Ob 14 (.load (.t 13) none),Ob 15 (.bin .eql (.t 14) (Ci 0)),Ob 2 (.mov (.t 15))])
 (.ret))
 (.skip)))))))
 (.seq (.region [Ob 2 (.mov (.c (.bool false)))])
 (.ret)))
def r107 : List Res := [.t 2]
def a107 : AFn := ⟨1, c107, r107,.v⟩

def c108 : ACode := .seq (.region [Ob 10 (.mov (.t 1)),Ob 11 (.bin .add (.t 10) (Ci 1)),Ob 8 (.mov (.t 11))])
 (.block 0 (.loop (.seq (.seq (.region [Ob 12 (.mov (.t 8)),Ob 13 (.mov (.t 2)),Ob 14 (.bin .lss (.t 12) (.t 13))])
 (.cond (.t 14) (.skip)
 (.exit 0)))
 (.seq (.block 1 (.seq (.region [Ob 17 (.mov (.t 8)),Ob 9 (.mov (.t 17))])
 (.block 2 (.loop (.seq (.seq (.region [Ob 18 (.mov (.t 9)),Ob 19 (.mov (.t 1)),Ob 20 (.bin .gtr (.t 18) (.t 19)),Ob 21 (.mov (.t 20)),Og 22 21 true (.mov (.t 3)),Og 23 21 true (.mov (.t 0)),Og 24 21 true (.mov (.t 9)),Og 25 21 true (.idx (.t 23) (.t 24) 5),Og 26 21 true (.load (.t 25) (some 5)),Og 27 21 true (.mov (.t 0)),Og 28 21 true (.mov (.t 9)),Og 29 21 true (.bin .sub (.t 28) (Ci 1)),Og 30 21 true (.idx (.t 27) (.t 29) 5),Og 31 21 true (.load (.t 30) (some 5)),Og 32 21 true (.callv (.t 22) [(.t 26), (.t 31)]),Og 33 21 true (.bin .lss (.t 32) (Ci 0)),Ob 34 (.pick (.t 21) (.t 33) (.c (.bool false)))])
 (.cond (.t 34) (.skip)
 (.exit 2)))
 (.seq (.block 3 (.region [Ob 37 (.mov (.t 0)),Ob 38 (.mov (.t 9)),Ob 39 (.mov (.t 0)),Ob 40 (.mov (.t 9)),Ob 41 (.bin .sub (.t 40) (Ci 1)),Ob 42 (.mov (.t 0)),Ob 43 (.mov (.t 9)),Ob 44 (.bin .sub (.t 43) (Ci 1)),Ob 45 (.idx (.t 42) (.t 44) 5),Ob 46 (.load (.t 45) (some 5)),Ob 47 (.mov (.t 0)),Ob 48 (.mov (.t 9)),Ob 49 (.idx (.t 47) (.t 48) 5),Ob 50 (.load (.t 49) (some 5)),Ob 51 (.idx (.t 37) (.t 38) 5),On (.store (.t 51) (.t 46) 5),Ob 52 (.idx (.t 39) (.t 41) 5),On (.store (.t 52) (.t 50) 5)]))
 (.region [Ob 35 (.mov (.t 9)),Ob 36 (.bin .sub (.t 35) (Ci 1)),Ob 9 (.mov (.t 36))])))))))
 (.region [Ob 15 (.mov (.t 8)),Ob 16 (.bin .add (.t 15) (Ci 1)),Ob 8 (.mov (.t 16))])))))
def r108 : List Res := []
def a108 : AFn := ⟨4, c108, r108,.r⟩

def c109 : ACode := .seq (.region [Ob 13 (.mov (.t 1)),Ob 8 (.mov (.t 13))])
 (.seq (.region [Ob 9 (.mov (Ci 0))])
 (.seq (.region [Ob 14 (.mov (.t 2)),Ob 15 (.mov (.t 1)),Ob 16 (.bin .sub (.t 14) (.t 15)),Ob 10 (.mov (.t 16))])
 (.seq (.seq (.region [Ob 17 (.mov (.t 10)),Ob 18 (.bin .sub (.t 17) (Ci 1)),Ob 19 (.bin .quo (.t 18) (Ci 2)),Ob 11 (.mov (.t 19))])
 (.block 0 (.loop (.seq (.seq (.region [Ob 20 (.mov (.t 11)),Ob 21 (.bin .geq (.t 20) (Ci 0))])
 (.cond (.t 21) (.skip)
 (.exit 0)))
 (.seq (.block 1 (.region [Ob 24 (.mov (.t 0)),Ob 25 (.mov (.t 11)),Ob 26 (.mov (.t 10)),Ob 27 (.mov (.t 8)),Ob 28 (.mov (.t 3)),Ob 29 (.call 118 [(.t 24), (.t 25), (.t 26), (.t 27), (.t 28)])]))
 (.region [Ob 22 (.mov (.t 11)),Ob 23 (.bin .sub (.t 22) (Ci 1)),Ob 11 (.mov (.t 23))]))))))
 (.seq (.region [Ob 30 (.mov (.t 10)),Ob 31 (.bin .sub (.t 30) (Ci 1)),Ob 12 (.mov (.t 31))])
 (.block 2 (.loop (.seq (.seq (.region [Ob 32 (.mov (.t 12)),Ob 33 (.bin .geq (.t 32) (Ci 0))])
 (.cond (.t 33) (.skip)
 (.exit 2)))
 (.seq (.block 3 (.seq (.region [Ob 36 (.mov (.t 0)),Ob 37 (.mov (.t 8)),Ob 38 (.mov (.t 0)),Ob 39 (.mov (.t 8)),Ob 40 (.mov (.t 12)),Ob 41 (.bin .add (.t 39) (.t 40)),Ob 42 (.mov (.t 0)),Ob 43 (.mov (.t 8)),Ob 44 (.mov (.t 12)),Ob 45 (.bin .add (.t 43) (.t 44)),Ob 46 (.idx (.t 42) (.t 45) 5),Ob 47 (.load (.t 46) (some 5)),Ob 48 (.mov (.t 0)),Ob 49 (.mov (.t 8)),Ob 50 (.idx (.t 48) (.t 49) 5),Ob 51 (.load (.t 50) (some 5)),Ob 52 (.idx (.t 36) (.t 37) 5),On (.store (.t 52) (.t 47) 5),Ob 53 (.idx (.t 38) (.t 41) 5),On (.store (.t 53) (.t 51) 5)])
 (.region [Ob 54 (.mov (.t 0)),Ob 55 (.mov (.t 9)),Ob 56 (.mov (.t 12)),Ob 57 (.mov (.t 8)),Ob 58 (.mov (.t 3)),Ob 59 (.call 118 [(.t 54), (.t 55), (.t 56), (.t 57), (.t 58)])])))
 (.region [Ob 34 (.mov (.t 12)),Ob 35 (.bin .sub (.t 34) (Ci 1)),Ob 12 (.mov (.t 35))])))))))))
def r109 : List Res := []
def a109 : AFn := ⟨4, c109, r109,.r⟩

def c110 : ACode := .seq (.region [Ob 13 (.mov (.t 2)),Ob 14 (.mov (.t 1)),Ob 15 (.bin .sub (.t 13) (.t 14)),Ob 8 (.mov (.t 15))])
 (.seq (.region [Ob 16 (.mov (.t 8)),Ob 17 (.bin .geq (.t 16) (Ci 8))])
 (.cond (.t 17) (.seq (.region [Ob 18 (.mov (.t 8)),Ob 19 (.conv .u64 (.t 18)),Ob 9 (.new (.int .u64 0) 1),On (.store (.t 9) (.t 19) 1)])
 (.seq (.region [Ob 20 (.mov (.t 8)),Ob 21 (.call 101 [(.t 20)]),Ob 10 (.mov (.t 21))])
 (.seq (.region [Ob 22 (.mov (.t 1)),Ob 23 (.mov (.t 8)),Ob 24 (.bin .quo (.t 23) (Ci 4)),Ob 25 (.bin .mul (.t 24) (Ci 2)),Ob 26 (.bin .add (.t 22) (.t 25)),Ob 27 (.bin .sub (.t 26) (Ci 1)),Ob 11 (.mov (.t 27))])
 (.block 0 (.loop (.seq (.seq (.region [Ob 28 (.mov (.t 11)),Ob 29 (.mov (.t 1)),Ob 30 (.mov (.t 8)),Ob 31 (.bin .quo (.t 30) (Ci 4)),Ob 32 (.bin .mul (.t 31) (Ci 2)),Ob 33 (.bin .add (.t 29) (.t 32)),Ob 34 (.bin .add (.t 33) (Ci 1)),Ob 35 (.bin .leq (.t 28) (.t 34))])
 (.cond (.t 35) (.skip)
 (.exit 0)))
 (.seq (.block 1 (.seq (.region [Ob 38 (.call 102 [(.t 9)]),Ob 39 (.mov (.t 10)),Ob 40 (.bin .sub (.t 39) (.c (.int .u64 1))),Ob 41 (.bin .and (.t 38) (.t 40)),Ob 42 (.conv .i64 (.t 41)),Ob 12 (.mov (.t 42))])
 (.seq (.seq (.region [Ob 43 (.mov (.t 12)),Ob 44 (.mov (.t 8)),Ob 45 (.bin .geq (.t 43) (.t 44))])
 (.cond (.t 45) (.region [Ob 46 (.mov (.t 12)),Ob 47 (.mov (.t 8)),Ob 48 (.bin .sub (.t 46) (.t 47)),Ob 12 (.mov (.t 48))])
 (.skip)))
 (.region [Ob 49 (.mov (.t 0)),Ob 50 (.mov (.t 11)),Ob 51 (.mov (.t 0)),Ob 52 (.mov (.t 1)),Ob 53 (.mov (.t 12)),Ob 54 (.bin .add (.t 52) (.t 53)),Ob 55 (.mov (.t 0)),Ob 56 (.mov (.t 1)),Ob 57 (.mov (.t 12)),Ob 58 (.bin .add (.t 56) (.t 57)),Ob 59 (.idx (.t 55) (.t 58) 5),Ob 60 (.load (.t 59) (some 5)),Ob 61 (.mov (.t 0)),Ob 62 (.mov (.t 11)),Ob 63 (.idx (.t 61) (.t 62) 5),Ob 64 (.load (.t 63) (some 5)),Ob 65 (.idx (.t 49) (.t 50) 5),On (.store (.t 65) (.t 60) 5),Ob 66 (.idx (.t 51) (.t 54) 5),On (.store (.t 66) (.t 64) 5)]))))
 (.region [Ob 36 (.mov (.t 11)),Ob 37 (.bin .add (.t 36) (Ci 1)),Ob 11 (.mov (.t 37))]))))))))
 (.skip)))
def r110 : List Res := []
def a110 : AFn := ⟨4, c110, r110,.r⟩

def c111 : ACode := .seq (.region [Ob 8 (.mov (Ci 0)),Ob 9 (.mov (Ci 0))])
 (.seq (.region [Ob 15 (.mov (.t 2)),Ob 16 (.mov (.t 1)),Ob 17 (.bin .sub (.t 15) (.t 16)),Ob 10 (.mov (.t 17))])
 (.seq (.region [Ob 11 (.new (.int .i64 0) 1)])
 (.seq (.region [Ob 18 (.mov (.t 1)),Ob 19 (.mov (.t 10)),Ob 20 (.bin .quo (.t 19) (Ci 4)),Ob 21 (.bin .mul (.t 20) (Ci 1)),Ob 22 (.bin .add (.t 18) (.t 21)),Ob 12 (.mov (.t 22))])
 (.seq (.region [Ob 23 (.mov (.t 1)),Ob 24 (.mov (.t 10)),Ob 25 (.bin .quo (.t 24) (Ci 4)),Ob 26 (.bin .mul (.t 25) (Ci 2)),Ob 27 (.bin .add (.t 23) (.t 26)),Ob 13 (.mov (.t 27))])
 (.seq (.region [Ob 28 (.mov (.t 1)),Ob 29 (.mov (.t 10)),Ob 30 (.bin .quo (.t 29) (Ci 4)),Ob 31 (.bin .mul (.t 30) (Ci 3)),Ob 32 (.bin .add (.t 28) (.t 31)),Ob 14 (.mov (.t 32))])
 (.seq (.seq (.region [Ob 33 (.mov (.t 10)),Ob 34 (.bin .geq (.t 33) (Ci 8))])
 (.cond (.t 34) (.seq (.seq (.region [Ob 35 (.mov (.t 10)),Ob 36 (.bin .geq (.t 35) (Ci 50))])
 (.cond (.t 36) (.seq (.region [Ob 37 (.mov (.t 0)),Ob 38 (.mov (.t 12)),Ob 39 (.mov (.t 3)),Ob 40 (.call 119 [(.t 37), (.t 38), (.t 11), (.t 39)]),Ob 12 (.mov (.t 40))])
 (.seq (.region [Ob 41 (.mov (.t 0)),Ob 42 (.mov (.t 13)),Ob 43 (.mov (.t 3)),Ob 44 (.call 119 [(.t 41), (.t 42), (.t 11), (.t 43)]),Ob 13 (.mov (.t 44))])
 (.region [Ob 45 (.mov (.t 0)),Ob 46 (.mov (.t 14)),Ob 47 (.mov (.t 3)),Ob 48 (.call 119 [(.t 45), (.t 46), (.t 11), (.t 47)]),Ob 14 (.mov (.t 48))])))
 (.skip)))
 (.region [Ob 49 (.mov (.t 0)),Ob 50 (.mov (.t 12)),Ob 51 (.mov (.t 13)),Ob 52 (.mov (.t 14)),Ob 53 (.mov (.t 3)),Ob 54 (.call 120 [(.t 49), (.t 50), (.t 51), (.t 52), (.t 11), (.t 53)]),Ob 13 (.mov (.t 54))]))
 (.skip)))
 (.seq (.region [Ob 55 (.load (.t 11) none)])
 (.block 0 (.seq (.region [Ob 58 (.bin .eql (.t 55) (Ci 0)),Ob 57 (.mov (.t 58))])
 (.cond (.t 57) (.seq (.region [Ob 59 (.mov (.t 13)),Ob 8 (.mov (.t 59)),Ob 9 (.mov (Ci 1))])
 (.ret))
 (.seq (.region [Ob 61 (.bin .eql (.t 55) (Ci 12)),Ob 60 (.mov (.t 61))])
 (.cond (.t 60) (.seq (.region [Ob 62 (.mov (.t 13)),Ob 8 (.mov (.t 62)),Ob 9 (.mov (Ci 2))])
 (.ret))
 (.seq (.region [Ob 56 (.mov (.t 13)),Ob 8 (.mov (.t 56)),Ob 9 (.mov (Ci 0))])
 (.ret))))))))))))))
def r111 : List Res := [.t 8,.t 9]
def a111 : AFn := ⟨4, c111, r111,.r⟩

def c112 : ACode := .seq (.region [Ob 10 (.mov (.t 1)),Ob 8 (.mov (.t 10))])
 (.seq (.region [Ob 11 (.mov (.t 2)),Ob 12 (.bin .sub (.t 11) (Ci 1)),Ob 9 (.mov (.t 12))])
 (.block 0 (.loop (.seq (.seq (.region [Ob 13 (.mov (.t 8)),Ob 14 (.mov (.t 9)),Ob 15 (.bin .lss (.t 13) (.t 14))])
 (.cond (.t 15) (.skip)
 (.exit 0)))
 (.block 1 (.seq (.region [Ob 16 (.mov (.t 0)),Ob 17 (.mov (.t 8)),Ob 18 (.mov (.t 0)),Ob 19 (.mov (.t 9)),Ob 20 (.mov (.t 0)),Ob 21 (.mov (.t 9)),Ob 22 (.idx (.t 20) (.t 21) 5),Ob 23 (.load (.t 22) (some 5)),Ob 24 (.mov (.t 0)),Ob 25 (.mov (.t 8)),Ob 26 (.idx (.t 24) (.t 25) 5),Ob 27 (.load (.t 26) (some 5)),Ob 28 (.idx (.t 16) (.t 17) 5),On (.store (.t 28) (.t 23) 5),Ob 29 (.idx (.t 18) (.t 19) 5),On (.store (.t 29) (.t 27) 5)])
 (.seq (.region [Ob 30 (.mov (.t 8)),Ob 31 (.bin .add (.t 30) (Ci 1)),Ob 8 (.mov (.t 31))])
 (.region [Ob 32 (.mov (.t 9)),Ob 33 (.bin .sub (.t 32) (Ci 1)),Ob 9 (.mov (.t 33))]))))))))
def r112 : List Res := []
def a112 : AFn := ⟨4, c112, r112,.r⟩

def c113 : ACode := .seq (.region [Ob 8 (.mov (.c (.bool false)))])
 (.seq (.region [Ob 13 (.mov (.t 1)),Ob 14 (.bin .add (.t 13) (Ci 1)),Ob 9 (.mov (.t 14))])
 (.seq (.seq (.region [Ob 10 (.mov (Ci 0))])
 (.block 0 (.loop (.seq (.seq (.region [Ob 15 (.mov (.t 10)),Ob 16 (.bin .lss (.t 15) (Ci 5))])
 (.cond (.t 16) (.skip)
 (.exit 0)))
 (.seq (.block 1 (.seq (.block 2 (.loop (.seq (.seq (.region [Ob 19 (.mov (.t 9)),Ob 20 (.mov (.t 2)),Ob 21 (.bin .lss (.t 19) (.t 20)),Ob 22 (.mov (.t 21)),Og 23 22 true (.mov (.t 3)),Og 24 22 true (.mov (.t 0)),Og 25 22 true (.mov (.t 9)),Og 26 22 true (.idx (.t 24) (.t 25) 5),Og 27 22 true (.load (.t 26) (some 5)),Og 28 22 true (.mov (.t 0)),Og 29 22 true (.mov (.t 9)),Og 30 22 true (.bin .sub (.t 29) (Ci 1)),Og 31 22 true (.idx (.t 28) (.t 30) 5),Og 32 22 true (.load (.t 31) (some 5)),Og 33 22 true (.callv (.t 23) [(.t 27), (.t 32)]),Og 34 22 true (.bin .lss (.t 33) (Ci 0)),Og 35 22 true (.not (.t 34)),Ob 36 (.pick (.t 22) (.t 35) (.c (.bool false)))])
 (.cond (.t 36) (.skip)
 (.exit 2)))
 (.block 3 (.region [Ob 37 (.mov (.t 9)),Ob 38 (.bin .add (.t 37) (Ci 1)),Ob 9 (.mov (.t 38))])))))
 (.seq (.seq (.region [Ob 39 (.mov (.t 9)),Ob 40 (.mov (.t 2)),Ob 41 (.bin .eql (.t 39) (.t 40))])
 (.cond (.t 41) (.seq (.region [Ob 8 (.mov (.c (.bool true)))])
 (.ret))
 (.skip)))
 (.seq (.seq (.region [Ob 42 (.mov (.t 2)),Ob 43 (.mov (.t 1)),Ob 44 (.bin .sub (.t 42) (.t 43)),Ob 45 (.bin .lss (.t 44) (Ci 50))])
 (.cond (.t 45) (.seq (.region [Ob 8 (.mov (.c (.bool false)))])
 (.ret))
 (.skip)))
 (.seq (.region [Ob 46 (.mov (.t 0)),Ob 47 (.mov (.t 9)),Ob 48 (.mov (.t 0)),Ob 49 (.mov (.t 9)),Ob 50 (.bin .sub (.t 49) (Ci 1)),Ob 51 (.mov (.t 0)),Ob 52 (.mov (.t 9)),Ob 53 (.bin .sub (.t 52) (Ci 1)),Ob 54 (.idx (.t 51) (.t 53) 5),Ob 55 (.load (.t 54) (some 5)),Ob 56 (.mov (.t 0)),Ob 57 (.mov (.t 9)),Ob 58 (.idx (.t 56) (.t 57) 5),Ob 59 (.load (.t 58) (some 5)),Ob 60 (.idx (.t 46) (.t 47) 5),On (.store (.t 60) (.t 55) 5),Ob 61 (.idx (.t 48) (.t 50) 5),On (.store (.t 61) (.t 59) 5)])
 (.seq (.seq (.region [Ob 62 (.mov (.t 9)),Ob 63 (.mov (.t 1)),Ob 64 (.bin .sub (.t 62) (.t 63)),Ob 65 (.bin .geq (.t 64) (Ci 2))])
 (.cond (.t 65) (.seq (.region [Ob 66 (.mov (.t 9)),Ob 67 (.bin .sub (.t 66) (Ci 1)),Ob 11 (.mov (.t 67))])
 (.block 4 (.loop (.seq (.seq (.region [Ob 68 (.mov (.t 11)),Ob 69 (.bin .geq (.t 68) (Ci 1))])
 (.cond (.t 69) (.skip)
 (.exit 4)))
 (.seq (.block 5 (.seq (.seq (.region [Ob 72 (.mov (.t 3)),Ob 73 (.mov (.t 0)),Ob 74 (.mov (.t 11)),Ob 75 (.idx (.t 73) (.t 74) 5),Ob 76 (.load (.t 75) (some 5)),Ob 77 (.mov (.t 0)),Ob 78 (.mov (.t 11)),Ob 79 (.bin .sub (.t 78) (Ci 1)),Ob 80 (.idx (.t 77) (.t 79) 5),Ob 81 (.load (.t 80) (some 5)),Ob 82 (.callv (.t 72) [(.t 76), (.t 81)]),Ob 83 (.bin .lss (.t 82) (Ci 0)),Ob 84 (.not (.t 83))])
 (.cond (.t 84) (.exit 4)
 (.skip)))
 (.region [Ob 85 (.mov (.t 0)),Ob 86 (.mov (.t 11)),Ob 87 (.mov (.t 0)),Ob 88 (.mov (.t 11)),Ob 89 (.bin .sub (.t 88) (Ci 1)),Ob 90 (.mov (.t 0)),Ob 91 (.mov (.t 11)),Ob 92 (.bin .sub (.t 91) (Ci 1)),Ob 93 (.idx (.t 90) (.t 92) 5),Ob 94 (.load (.t 93) (some 5)),Ob 95 (.mov (.t 0)),Ob 96 (.mov (.t 11)),Ob 97 (.idx (.t 95) (.t 96) 5),Ob 98 (.load (.t 97) (some 5)),Ob 99 (.idx (.t 85) (.t 86) 5),On (.store (.t 99) (.t 94) 5),Ob 100 (.idx (.t 87) (.t 89) 5),On (.store (.t 100) (.t 98) 5)])))
 (.region [Ob 70 (.mov (.t 11)),Ob 71 (.bin .sub (.t 70) (Ci 1)),Ob 11 (.mov (.t 71))]))))))
 (.skip)))
 (.seq (.region [Ob 101 (.mov (.t 2)),Ob 102 (.mov (.t 9)),Ob 103 (.bin .sub (.t 101) (.t 102)),Ob 104 (.bin .geq (.t 103) (Ci 2))])
 (.cond (.t 104) (.seq (.region [Ob 105 (.mov (.t 9)),Ob 106 (.bin .add (.t 105) (Ci 1)),Ob 12 (.mov (.t 106))])
 (.block 6 (.loop (.seq (.seq (.region [Ob 107 (.mov (.t 12)),Ob 108 (.mov (.t 2)),Ob 109 (.bin .lss (.t 107) (.t 108))])
 (.cond (.t 109) (.skip)
 (.exit 6)))
 (.seq (.block 7 (.seq (.seq (.region [Ob 112 (.mov (.t 3)),Ob 113 (.mov (.t 0)),Ob 114 (.mov (.t 12)),Ob 115 (.idx (.t 113) (.t 114) 5),Ob 116 (.load (.t 115) (some 5)),Ob 117 (.mov (.t 0)),Ob 118 (.mov (.t 12)),Ob 119 (.bin .sub (.t 118) (Ci 1)),Ob 120 (.idx (.t 117) (.t 119) 5),Ob 121 (.load (.t 120) (some 5)),Ob 122 (.callv (.t 112) [(.t 116), (.t 121)]),Ob 123 (.bin .lss (.t 122) (Ci 0)),Ob 124 (.not (.t 123))])
 (.cond (.t 124) (.exit 6)
 (.skip)))
 (.region [Ob 125 (.mov (.t 0)),Ob 126 (.mov (.t 12)),Ob 127 (.mov (.t 0)),Ob 128 (.mov (.t 12)),Ob 129 (.bin .sub (.t 128) (Ci 1)),Ob 130 (.mov (.t 0)),Ob 131 (.mov (.t 12)),Ob 132 (.bin .sub (.t 131) (Ci 1)),Ob 133 (.idx (.t 130) (.t 132) 5),Ob 134 (.load (.t 133) (some 5)),Ob 135 (.mov (.t 0)),Ob 136 (.mov (.t 12)),Ob 137 (.idx (.t 135) (.t 136) 5),Ob 138 (.load (.t 137) (some 5)),Ob 139 (.idx (.t 125) (.t 126) 5),On (.store (.t 139) (.t 134) 5),Ob 140 (.idx (.t 127) (.t 129) 5),On (.store (.t 140) (.t 138) 5)])))
 (.region [Ob 110 (.mov (.t 12)),Ob 111 (.bin .add (.t 110) (Ci 1)),Ob 12 (.mov (.t 111))]))))))
 (.skip)))))))))
 (.region [Ob 17 (.mov (.t 10)),Ob 18 (.bin .add (.t 17) (Ci 1)),Ob 10 (.mov (.t 18))]))))))
 (.seq (.region [Ob 8 (.mov (.c (.bool false)))])
 (.ret))))
def r113 : List Res := [.t 8]
def a113 : AFn := ⟨4, c113, r113,.r⟩

def c114 : ACode := .seq (.region [Ob 10 (.mov (Ci 0))])
 (.seq (.region [Ob 13 (.mov (.t 0)),Ob 14 (.mov (.t 1)),Ob 15 (.mov (.t 0)),Ob 16 (.mov (.t 3)),Ob 17 (.mov (.t 0)),Ob 18 (.mov (.t 3)),Ob 19 (.idx (.t 17) (.t 18) 5),Ob 20 (.load (.t 19) (some 5)),Ob 21 (.mov (.t 0)),Ob 22 (.mov (.t 1)),Ob 23 (.idx (.t 21) (.t 22) 5),Ob 24 (.load (.t 23) (some 5)),Ob 25 (.idx (.t 13) (.t 14) 5),On (.store (.t 25) (.t 20) 5),Ob 26 (.idx (.t 15) (.t 16) 5),On (.store (.t 26) (.t 24) 5)])
 (.seq (.region [Ob 27 (.mov (.t 1)),Ob 28 (.bin .add (.t 27) (Ci 1)),Ob 29 (.mov (.t 2)),Ob 30 (.bin .sub (.t 29) (Ci 1)),Ob 11 (.mov (.t 28)),Ob 12 (.mov (.t 30))])
 (.seq (.block 0 (.loop (.block 1 (.seq (.block 2 (.loop (.seq (.seq (.region [Ob 31 (.mov (.t 11)),Ob 32 (.mov (.t 12)),Ob 33 (.bin .leq (.t 31) (.t 32)),Ob 34 (.mov (.t 33)),Og 35 34 true (.mov (.t 4)),Og 36 34 true (.mov (.t 0)),Og 37 34 true (.mov (.t 1)),Og 38 34 true (.idx (.t 36) (.t 37) 5),Og 39 34 true (.load (.t 38) (some 5)),Og 40 34 true (.mov (.t 0)),Og 41 34 true (.mov (.t 11)),Og 42 34 true (.idx (.t 40) (.t 41) 5),Og 43 34 true (.load (.t 42) (some 5)),Og 44 34 true (.callv (.t 35) [(.t 39), (.t 43)]),Og 45 34 true (.bin .lss (.t 44) (Ci 0)),Og 46 34 true (.not (.t 45)),Ob 47 (.pick (.t 34) (.t 46) (.c (.bool false)))])
 (.cond (.t 47) (.skip)
 (.exit 2)))
 (.block 3 (.region [Ob 48 (.mov (.t 11)),Ob 49 (.bin .add (.t 48) (Ci 1)),Ob 11 (.mov (.t 49))])))))
 (.seq (.block 4 (.loop (.seq (.seq (.region [Ob 50 (.mov (.t 11)),Ob 51 (.mov (.t 12)),Ob 52 (.bin .leq (.t 50) (.t 51)),Ob 53 (.mov (.t 52)),Og 54 53 true (.mov (.t 4)),Og 55 53 true (.mov (.t 0)),Og 56 53 true (.mov (.t 1)),Og 57 53 true (.idx (.t 55) (.t 56) 5),Og 58 53 true (.load (.t 57) (some 5)),Og 59 53 true (.mov (.t 0)),Og 60 53 true (.mov (.t 12)),Og 61 53 true (.idx (.t 59) (.t 60) 5),Og 62 53 true (.load (.t 61) (some 5)),Og 63 53 true (.callv (.t 54) [(.t 58), (.t 62)]),Og 64 53 true (.bin .lss (.t 63) (Ci 0)),Ob 65 (.pick (.t 53) (.t 64) (.c (.bool false)))])
 (.cond (.t 65) (.skip)
 (.exit 4)))
 (.block 5 (.region [Ob 66 (.mov (.t 12)),Ob 67 (.bin .sub (.t 66) (Ci 1)),Ob 12 (.mov (.t 67))])))))
 (.seq (.seq (.region [Ob 68 (.mov (.t 11)),Ob 69 (.mov (.t 12)),Ob 70 (.bin .gtr (.t 68) (.t 69))])
 (.cond (.t 70) (.exit 0)
 (.skip)))
 (.seq (.region [Ob 71 (.mov (.t 0)),Ob 72 (.mov (.t 11)),Ob 73 (.mov (.t 0)),Ob 74 (.mov (.t 12)),Ob 75 (.mov (.t 0)),Ob 76 (.mov (.t 12)),Ob 77 (.idx (.t 75) (.t 76) 5),Ob 78 (.load (.t 77) (some 5)),Ob 79 (.mov (.t 0)),Ob 80 (.mov (.t 11)),Ob 81 (.idx (.t 79) (.t 80) 5),Ob 82 (.load (.t 81) (some 5)),Ob 83 (.idx (.t 71) (.t 72) 5),On (.store (.t 83) (.t 78) 5),Ob 84 (.idx (.t 73) (.t 74) 5),On (.store (.t 84) (.t 82) 5)])
 (.seq (.region [Ob 85 (.mov (.t 11)),Ob 86 (.bin .add (.t 85) (Ci 1)),Ob 11 (.mov (.t 86))])
 (.region [Ob 87 (.mov (.t 12)),Ob 88 (.bin .sub (.t 87) (Ci 1)),Ob 12 (.mov (.t 88))])))))))))
 (.seq (.region [Ob 89 (.mov (.t 11)),Ob 10 (.mov (.t 89))])
 (.ret)))))
def r114 : List Res := [.t 10]
def a114 : AFn := ⟨5, c114, r114,.r⟩

def c115 : ACode := .seq (.region [Ob 10 (.mov (Ci 0)),Ob 11 (.mov (.c (.bool false)))])
 (.seq (.region [Ob 14 (.mov (.t 0)),Ob 15 (.mov (.t 1)),Ob 16 (.mov (.t 0)),Ob 17 (.mov (.t 3)),Ob 18 (.mov (.t 0)),Ob 19 (.mov (.t 3)),Ob 20 (.idx (.t 18) (.t 19) 5),Ob 21 (.load (.t 20) (some 5)),Ob 22 (.mov (.t 0)),Ob 23 (.mov (.t 1)),Ob 24 (.idx (.t 22) (.t 23) 5),Ob 25 (.load (.t 24) (some 5)),Ob 26 (.idx (.t 14) (.t 15) 5),On (.store (.t 26) (.t 21) 5),Ob 27 (.idx (.t 16) (.t 17) 5),On (.store (.t 27) (.t 25) 5)])
 (.seq (.region [Ob 28 (.mov (.t 1)),Ob 29 (.bin .add (.t 28) (Ci 1)),Ob 30 (.mov (.t 2)),Ob 31 (.bin .sub (.t 30) (Ci 1)),Ob 12 (.mov (.t 29)),Ob 13 (.mov (.t 31))])
 (.seq (.block 0 (.loop (.seq (.seq (.region [Ob 32 (.mov (.t 12)),Ob 33 (.mov (.t 13)),Ob 34 (.bin .leq (.t 32) (.t 33)),Ob 35 (.mov (.t 34)),Og 36 35 true (.mov (.t 4)),Og 37 35 true (.mov (.t 0)),Og 38 35 true (.mov (.t 12)),Og 39 35 true (.idx (.t 37) (.t 38) 5),Og 40 35 true (.load (.t 39) (some 5)),Og 41 35 true (.mov (.t 0)),Og 42 35 true (.mov (.t 1)),Og 43 35 true (.idx (.t 41) (.t 42) 5),Og 44 35 true (.load (.t 43) (some 5)),Og 45 35 true (.callv (.t 36) [(.t 40), (.t 44)]),Og 46 35 true (.bin .lss (.t 45) (Ci 0)),Ob 47 (.pick (.t 35) (.t 46) (.c (.bool false)))])
 (.cond (.t 47) (.skip)
 (.exit 0)))
 (.block 1 (.region [Ob 48 (.mov (.t 12)),Ob 49 (.bin .add (.t 48) (Ci 1)),Ob 12 (.mov (.t 49))])))))
 (.seq (.block 2 (.loop (.seq (.seq (.region [Ob 50 (.mov (.t 12)),Ob 51 (.mov (.t 13)),Ob 52 (.bin .leq (.t 50) (.t 51)),Ob 53 (.mov (.t 52)),Og 54 53 true (.mov (.t 4)),Og 55 53 true (.mov (.t 0)),Og 56 53 true (.mov (.t 13)),Og 57 53 true (.idx (.t 55) (.t 56) 5),Og 58 53 true (.load (.t 57) (some 5)),Og 59 53 true (.mov (.t 0)),Og 60 53 true (.mov (.t 1)),Og 61 53 true (.idx (.t 59) (.t 60) 5),Og 62 53 true (.load (.t 61) (some 5)),Og 63 53 true (.callv (.t 54) [(.t 58), (.t 62)]),Og 64 53 true (.bin .lss (.t 63) (Ci 0)),Og 65 53 true (.not (.t 64)),Ob 66 (.pick (.t 53) (.t 65) (.c (.bool false)))])
 (.cond (.t 66) (.skip)
 (.exit 2)))
 (.block 3 (.region [Ob 67 (.mov (.t 13)),Ob 68 (.bin .sub (.t 67) (Ci 1)),Ob 13 (.mov (.t 68))])))))
 (.seq (.seq (.region [Ob 69 (.mov (.t 12)),Ob 70 (.mov (.t 13)),Ob 71 (.bin .gtr (.t 69) (.t 70))])
 (.cond (.t 71) (.seq (.region [Ob 72 (.mov (.t 0)),Ob 73 (.mov (.t 13)),Ob 74 (.mov (.t 0)),Ob 75 (.mov (.t 1)),Ob 76 (.mov (.t 0)),Ob 77 (.mov (.t 1)),Ob 78 (.idx (.t 76) (.t 77) 5),Ob 79 (.load (.t 78) (some 5)),Ob 80 (.mov (.t 0)),Ob 81 (.mov (.t 13)),Ob 82 (.idx (.t 80) (.t 81) 5),Ob 83 (.load (.t 82) (some 5)),Ob 84 (.idx (.t 72) (.t 73) 5),On (.store (.t 84) (.t 79) 5),Ob 85 (.idx (.t 74) (.t 75) 5),On (.store (.t 85) (.t 83) 5)])
 (.seq (.region [Ob 86 (.mov (.t 13)),Ob 10 (.mov (.t 86)),Ob 11 (.mov (.c (.bool true)))])
 (.ret)))
 (.skip)))
 (.seq (.region [Ob 87 (.mov (.t 0)),Ob 88 (.mov (.t 12)),Ob 89 (.mov (.t 0)),Ob 90 (.mov (.t 13)),Ob 91 (.mov (.t 0)),Ob 92 (.mov (.t 13)),Ob 93 (.idx (.t 91) (.t 92) 5),Ob 94 (.load (.t 93) (some 5)),Ob 95 (.mov (.t 0)),Ob 96 (.mov (.t 12)),Ob 97 (.idx (.t 95) (.t 96) 5),Ob 98 (.load (.t 97) (some 5)),Ob 99 (.idx (.t 87) (.t 88) 5),On (.store (.t 99) (.t 94) 5),Ob 100 (.idx (.t 89) (.t 90) 5),On (.store (.t 100) (.t 98) 5)])
 (.seq (.region [Ob 101 (.mov (.t 12)),Ob 102 (.bin .add (.t 101) (Ci 1)),Ob 12 (.mov (.t 102))])
 (.seq (.region [Ob 103 (.mov (.t 13)),Ob 104 (.bin .sub (.t 103) (Ci 1)),Ob 13 (.mov (.t 104))])
 (.seq (.block 4 (.loop (.block 5 (.seq (.block 6 (.loop (.seq (.seq (.region [Ob 105 (.mov (.t 12)),Ob 106 (.mov (.t 13)),Ob 107 (.bin .leq (.t 105) (.t 106)),Ob 108 (.mov (.t 107)),Og 109 108 true (.mov (.t 4)),Og 110 108 true (.mov (.t 0)),Og 111 108 true (.mov (.t 12)),Og 112 108 true (.idx (.t 110) (.t 111) 5),Og 113 108 true (.load (.t 112) (some 5)),Og 114 108 true (.mov (.t 0)),Og 115 108 true (.mov (.t 1)),Og 116 108 true (.idx (.t 114) (.t 115) 5),Og 117 108 true (.load (.t 116) (some 5)),Og 118 108 true (.callv (.t 109) [(.t 113), (.t 117)]),Og 119 108 true (.bin .lss (.t 118) (Ci 0)),Ob 120 (.pick (.t 108) (.t 119) (.c (.bool false)))])
 (.cond (.t 120) (.skip)
 (.exit 6)))
 (.block 7 (.region [Ob 121 (.mov (.t 12)),Ob 122 (.bin .add (.t 121) (Ci 1)),Ob 12 (.mov (.t 122))])))))
 (.seq (.block 8 (.loop (.seq (.seq (.region [Ob 123 (.mov (.t 12)),Ob 124 (.mov (.t 13)),Ob 125 (.bin .leq (.t 123) (.t 124)),Ob 126 (.mov (.t 125)),Og 127 126 true (.mov (.t 4)),Og 128 126 true (.mov (.t 0)),Og 129 126 true (.mov (.t 13)),Og 130 126 true (.idx (.t 128) (.t 129) 5),Og 131 126 true (.load (.t 130) (some 5)),Og 132 126 true (.mov (.t 0)),Og 133 126 true (.mov (.t 1)),Og 134 126 true (.idx (.t 132) (.t 133) 5),Og 135 126 true (.load (.t 134) (some 5)),Og 136 126 true (.callv (.t 127) [(.t 131), (.t 135)]),Og 137 126 true (.bin .lss (.t 136) (Ci 0)),Og 138 126 true (.not (.t 137)),Ob 139 (.pick (.t 126) (.t 138) (.c (.bool false)))])
 (.cond (.t 139) (.skip)
 (.exit 8)))
 (.block 9 (.region [Ob 140 (.mov (.t 13)),Ob 141 (.bin .sub (.t 140) (Ci 1)),Ob 13 (.mov (.t 141))])))))
 (.seq (.seq (.region [Ob 142 (.mov (.t 12)),Ob 143 (.mov (.t 13)),Ob 144 (.bin .gtr (.t 142) (.t 143))])
 (.cond (.t 144) (.exit 4)
 (.skip)))
 (.seq (.region [Ob 145 (.mov (.t 0)),Ob 146 (.mov (.t 12)),Ob 147 (.mov (.t 0)),Ob 148 (.mov (.t 13)),Ob 149 (.mov (.t 0)),Ob 150 (.mov (.t 13)),Ob 151 (.idx (.t 149) (.t 150) 5),Ob 152 (.load (.t 151) (some 5)),Ob 153 (.mov (.t 0)),Ob 154 (.mov (.t 12)),Ob 155 (.idx (.t 153) (.t 154) 5),Ob 156 (.load (.t 155) (some 5)),Ob 157 (.idx (.t 145) (.t 146) 5),On (.store (.t 157) (.t 152) 5),Ob 158 (.idx (.t 147) (.t 148) 5),On (.store (.t 158) (.t 156) 5)])
 (.seq (.region [Ob 159 (.mov (.t 12)),Ob 160 (.bin .add (.t 159) (Ci 1)),Ob 12 (.mov (.t 160))])
 (.region [Ob 161 (.mov (.t 13)),Ob 162 (.bin .sub (.t 161) (Ci 1)),Ob 13 (.mov (.t 162))])))))))))
 (.seq (.region [Ob 163 (.mov (.t 0)),Ob 164 (.mov (.t 13)),Ob 165 (.mov (.t 0)),Ob 166 (.mov (.t 1)),Ob 167 (.mov (.t 0)),Ob 168 (.mov (.t 1)),Ob 169 (.idx (.t 167) (.t 168) 5),Ob 170 (.load (.t 169) (some 5)),Ob 171 (.mov (.t 0)),Ob 172 (.mov (.t 13)),Ob 173 (.idx (.t 171) (.t 172) 5),Ob 174 (.load (.t 173) (some 5)),Ob 175 (.idx (.t 163) (.t 164) 5),On (.store (.t 175) (.t 170) 5),Ob 176 (.idx (.t 165) (.t 166) 5),On (.store (.t 176) (.t 174) 5)])
 (.seq (.region [Ob 177 (.mov (.t 13)),Ob 10 (.mov (.t 177)),Ob 11 (.mov (.c (.bool false)))])
 (.ret))))))))))))
def r115 : List Res := [.t 10,.t 11]
def a115 : AFn := ⟨5, c115, r115,.r⟩

def c116 : ACode := .seq (.region [Ob 8 (.mov (Ci 0)),Ob 9 (.mov (Ci 0))])
 (.seq (.seq (.region [Ob 10 (.mov (.t 0)),Ob 11 (.mov (.t 2)),Ob 12 (.idx (.t 10) (.t 11) 1),Ob 13 (.load (.t 12) none),Ob 14 (.mov (.t 0)),Ob 15 (.mov (.t 1)),Ob 16 (.idx (.t 14) (.t 15) 1),Ob 17 (.load (.t 16) none),Ob 18 (.call 85 [(.t 13), (.t 17)])])
 (.cond (.t 18) (.seq (.region [Ob 19 (.mov (.t 3)),Ob 20 (.addr (.t 19) 0),Ob 21 (.load (.t 20) none),Ob 22 (.bin .add (.t 21) (Ci 1)),Ob 23 (.addr (.t 19) 0),On (.store (.t 23) (.t 22) 1)])
 (.seq (.region [Ob 24 (.mov (.t 2)),Ob 25 (.mov (.t 1)),Ob 8 (.mov (.t 24)),Ob 9 (.mov (.t 25))])
 (.ret)))
 (.skip)))
 (.seq (.region [Ob 26 (.mov (.t 1)),Ob 27 (.mov (.t 2)),Ob 8 (.mov (.t 26)),Ob 9 (.mov (.t 27))])
 (.ret)))
def r116 : List Res := [.t 8,.t 9]
def a116 : AFn := ⟨4, c116, r116,.r⟩

def c117 : ACode := .seq (.region [Ob 4 (.mov (Ci 0))])
 (.seq (.seq (.region [Ob 6 (.mov (.t 0)),Ob 7 (.len (.t 6)),Ob 8 (.mov (Ci 0))])
 (.block 0 (.loop (.seq (.region [Ob 9 (.bin .lss (.t 8) (.t 7))])
 (.seq (.cond (.t 9) (.skip)
 (.exit 0))
 (.seq (.block 1 (.seq (.region [Ob 10 (.mov (.t 8)),Ob 5 (.mov (.t 10))])
 (.seq (.region [Ob 11 (.mov (.t 1)),Ob 12 (.mov (.t 0)),Ob 13 (.mov (.t 5)),Ob 14 (.idx (.t 12) (.t 13) 5),Ob 15 (.load (.t 14) (some 5)),Ob 16 (.callv (.t 11) [(.t 15)])])
 (.cond (.t 16) (.seq (.region [Ob 17 (.mov (.t 5)),Ob 4 (.mov (.t 17))])
 (.ret))
 (.skip)))))
 (.region [Ob 18 (.bin .add (.t 8) (Ci 1)),Ob 8 (.mov (.t 18))])))))))
 (.seq (.region [Ob 4 (.mov (Ci (-1)))])
 (.ret)))
def r117 : List Res := [.t 4]
def a117 : AFn := ⟨2, c117, r117,.v⟩

def c118 : ACode := .seq (.region [Ob 12 (.mov (.t 1)),Ob 10 (.mov (.t 12))])
 (.block 0 (.loop (.block 1 (.seq (.region [Ob 13 (.mov (.t 10)),Ob 14 (.bin .mul (Ci 2) (.t 13)),Ob 15 (.bin .add (.t 14) (Ci 1)),Ob 11 (.mov (.t 15))])
 (.seq (.seq (.region [Ob 16 (.mov (.t 11)),Ob 17 (.mov (.t 2)),Ob 18 (.bin .geq (.t 16) (.t 17))])
 (.cond (.t 18) (.exit 0)
 (.skip)))
 (.seq (.seq (.region [Ob 19 (.mov (.t 11)),Ob 20 (.bin .add (.t 19) (Ci 1)),Ob 21 (.mov (.t 2)),Ob 22 (.bin .lss (.t 20) (.t 21)),Ob 23 (.mov (.t 22)),Og 24 23 true (.mov (.t 4)),Og 25 23 true (.mov (.t 0)),Og 26 23 true (.mov (.t 3)),Og 27 23 true (.mov (.t 11)),Og 28 23 true (.bin .add (.t 26) (.t 27)),Og 29 23 true (.idx (.t 25) (.t 28) 5),Og 30 23 true (.load (.t 29) (some 5)),Og 31 23 true (.mov (.t 0)),Og 32 23 true (.mov (.t 3)),Og 33 23 true (.mov (.t 11)),Og 34 23 true (.bin .add (.t 32) (.t 33)),Og 35 23 true (.bin .add (.t 34) (Ci 1)),Og 36 23 true (.idx (.t 31) (.t 35) 5),Og 37 23 true (.load (.t 36) (some 5)),Og 38 23 true (.callv (.t 24) [(.t 30), (.t 37)]),Og 39 23 true (.bin .lss (.t 38) (Ci 0)),Ob 40 (.pick (.t 23) (.t 39) (.c (.bool false)))])
 (.cond (.t 40) (.region [Ob 41 (.mov (.t 11)),Ob 42 (.bin .add (.t 41) (Ci 1)),Ob 11 (.mov (.t 42))])
 (.skip)))
 (.seq (.seq (.region [Ob 43 (.mov (.t 4)),Ob 44 (.mov (.t 0)),Ob 45 (.mov (.t 3)),Ob 46 (.mov (.t 10)),Ob 47 (.bin .add (.t 45) (.t 46)),Ob 48 (.idx (.t 44) (.t 47) 5),Ob 49 (.load (.t 48) (some 5)),Ob 50 (.mov (.t 0)),Ob 51 (.mov (.t 3)),Ob 52 (.mov (.t 11)),Ob 53 (.bin .add (.t 51) (.t 52)),Ob 54 (.idx (.t 50) (.t 53) 5),Ob 55 (.load (.t 54) (some 5)),Ob 56 (.callv (.t 43) [(.t 49), (.t 55)]),Ob 57 (.bin .lss (.t 56) (Ci 0)),Ob 58 (.not (.t 57))])
 (.cond (.t 58) (.ret)
 (.skip)))
 (.seq (.region [Ob 59 (.mov (.t 0)),Ob 60 (.mov (.t 3)),Ob 61 (.mov (.t 10)),Ob 62 (.bin .add (.t 60) (.t 61)),Ob 63 (.mov (.t 0)),Ob 64 (.mov (.t 3)),Ob 65 (.mov (.t 11)),Ob 66 (.bin .add (.t 64) (.t 65)),Ob 67 (.mov (.t 0)),Ob 68 (.mov (.t 3)),Ob 69 (.mov (.t 11)),Ob 70 (.bin .add (.t 68) (.t 69)),Ob 71 (.idx (.t 67) (.t 70) 5),Ob 72 (.load (.t 71) (some 5)),Ob 73 (.mov (.t 0)),Ob 74 (.mov (.t 3)),Ob 75 (.mov (.t 10)),Ob 76 (.bin .add (.t 74) (.t 75)),Ob 77 (.idx (.t 73) (.t 76) 5),Ob 78 (.load (.t 77) (some 5)),Ob 79 (.idx (.t 59) (.t 62) 5),On (.store (.t 79) (.t 72) 5),Ob 80 (.idx (.t 63) (.t 66) 5),On (.store (.t 80) (.t 78) 5)])
 (.region [Ob 81 (.mov (.t 11)),Ob 10 (.mov (.t 81))])))))))))
def r118 : List Res := []
def a118 : AFn := ⟨5, c118, r118,.r⟩

def c119 : ACode := .seq (.region [Ob 8 (.mov (Ci 0))])
 (.seq (.region [Ob 9 (.mov (.t 0)),Ob 10 (.mov (.t 1)),Ob 11 (.bin .sub (.t 10) (Ci 1)),Ob 12 (.mov (.t 1)),Ob 13 (.mov (.t 1)),Ob 14 (.bin .add (.t 13) (Ci 1)),Ob 15 (.mov (.t 2)),Ob 16 (.mov (.t 3)),Ob 17 (.call 120 [(.t 9), (.t 11), (.t 12), (.t 14), (.t 15), (.t 16)]),Ob 8 (.mov (.t 17))])
 (.ret))
def r119 : List Res := [.t 8]
def a119 : AFn := ⟨4, c119, r119,.r⟩

def c120 : ACode := .seq (.region [Ob 12 (.mov (Ci 0))])
 (.seq (.region [Ob 14 (.mov (.t 0)),Ob 15 (.mov (.t 1)),Ob 16 (.mov (.t 2)),Ob 17 (.mov (.t 4)),Ob 18 (.mov (.t 5)),Ob 19 (.call 121 [(.t 14), (.t 15), (.t 16), (.t 17), (.t 18)]),Ob 13 (.mov (.t 19)),Ob 20 (.ext (.t 13) 0),Ob 21 (.ext (.t 13) 1),Ob 1 (.mov (.t 20)),Ob 2 (.mov (.t 21))])
 (.seq (.region [Ob 23 (.mov (.t 0)),Ob 24 (.mov (.t 2)),Ob 25 (.mov (.t 3)),Ob 26 (.mov (.t 4)),Ob 27 (.mov (.t 5)),Ob 28 (.call 121 [(.t 23), (.t 24), (.t 25), (.t 26), (.t 27)]),Ob 22 (.mov (.t 28)),Ob 29 (.ext (.t 22) 0),Ob 30 (.ext (.t 22) 1),Ob 2 (.mov (.t 29)),Ob 3 (.mov (.t 30))])
 (.seq (.region [Ob 32 (.mov (.t 0)),Ob 33 (.mov (.t 1)),Ob 34 (.mov (.t 2)),Ob 35 (.mov (.t 4)),Ob 36 (.mov (.t 5)),Ob 37 (.call 121 [(.t 32), (.t 33), (.t 34), (.t 35), (.t 36)]),Ob 31 (.mov (.t 37)),Ob 38 (.ext (.t 31) 0),Ob 39 (.ext (.t 31) 1),Ob 1 (.mov (.t 38)),Ob 2 (.mov (.t 39))])
 (.seq (.region [Ob 40 (.mov (.t 2)),Ob 12 (.mov (.t 40))])
 (.ret)))))
def r120 : List Res := [.t 12]
def a120 : AFn := ⟨6, c120, r120,.r⟩

def c121 : ACode := .seq (.region [Ob 10 (.mov (Ci 0)),Ob 11 (.mov (Ci 0))])
 (.seq (.seq (.region [Ob 12 (.mov (.t 4)),Ob 13 (.mov (.t 0)),Ob 14 (.mov (.t 2)),Ob 15 (.idx (.t 13) (.t 14) 5),Ob 16 (.load (.t 15) (some 5)),Ob 17 (.mov (.t 0)),Ob 18 (.mov (.t 1)),Ob 19 (.idx (.t 17) (.t 18) 5),Ob 20 (.load (.t 19) (some 5)),Ob 21 (.callv (.t 12) [(.t 16), (.t 20)]),Ob 22 (.bin .lss (.t 21) (Ci 0))])
 (.cond (.t 22) (.seq (.region [Ob 23 (.mov (.t 3)),Ob 24 (.addr (.t 23) 0),Ob 25 (.load (.t 24) none),Ob 26 (.bin .add (.t 25) (Ci 1)),Ob 27 (.addr (.t 23) 0),On (.store (.t 27) (.t 26) 1)])
 (.seq (.region [Ob 28 (.mov (.t 2)),Ob 29 (.mov (.t 1)),Ob 10 (.mov (.t 28)),Ob 11 (.mov (.t 29))])
 (.ret)))
 (.skip)))
 (.seq (.region [Ob 30 (.mov (.t 1)),Ob 31 (.mov (.t 2)),Ob 10 (.mov (.t 30)),Ob 11 (.mov (.t 31))])
 (.ret)))
def r121 : List Res := [.t 10,.t 11]
def a121 : AFn := ⟨5, c121, r121,.r⟩


def ft : FuncId → Option AFn
  | 3 => some a3
  | 4 => some a4
  | 5 => some a5
  | 6 => some a6
  | 7 => some a7
  | 8 => some a8
  | 9 => some a9
  | 10 => some a10
  | 11 => some a11
  | 12 => some a12
  | 13 => some a13
  | 14 => some a14
  | 15 => some a15
  | 16 => some a16
  | 17 => some a17
  | 18 => some a18
  | 19 => some a19
  | 20 => some a20
  | 21 => some a21
  | 22 => some a22
  | 23 => some a23
  | 24 => some a24
  | 25 => some a25
  | 26 => some a26
  | 27 => some a27
  | 28 => some a28
  | 29 => some a29
  | 30 => some a30
  | 31 => some a31
  | 32 => some a32
  | 33 => some a33
  | 34 => some a34
  | 35 => some a35
  | 36 => some a36
  | 37 => some a37
  | 38 => some a38
  | 39 => some a39
  | 40 => some a40
  | 41 => some a41
  | 42 => some a42
  | 43 => some a43
  | 44 => some a44
  | 45 => some a45
  | 46 => some a46
  | 47 => some a47
  | 48 => some a48
  | 49 => some a49
  | 50 => some a50
  | 51 => some a51
  | 52 => some a52
  | 53 => some a53
  | 54 => some a54
  | 55 => some a55
  | 56 => some a56
  | 57 => some a57
  | 58 => some a58
  | 59 => some a59
  | 60 => some a60
  | 61 => some a61
  | 62 => some a62
  | 63 => some a63
  | 64 => some a64
  | 65 => some a65
  | 66 => some a66
  | 67 => some a67
  | 68 => some a68
  | 69 => some a69
  | 70 => some a70
  | 71 => some a71
  | 72 => some a72
  | 73 => some a73
  | 74 => some a74
  | 75 => some a75
  | 76 => some a76
  | 77 => some a77
  | 78 => some a78
  | 79 => some a79
  | 80 => some a80
  | 81 => some a81
  | 82 => some a82
  | 83 => some a83
  | 84 => some a84
  | 85 => some a85
  | 86 => some a86
  | 87 => some a87
  | 88 => some a88
  | 89 => some a89
  | 90 => some a90
  | 91 => some a91
  | 92 => some a92
  | 93 => some a93
  | 94 => some a94
  | 95 => some a95
  | 96 => some a96
  | 97 => some a97
  | 98 => some a98
  | 99 => some a99
  | 100 => some a100
  | 101 => some a101
  | 102 => some a102
  | 103 => some a103
  | 104 => some a104
  | 105 => some a105
  | 106 => some a106
  | 107 => some a107
  | 108 => some a108
  | 109 => some a109
  | 110 => some a110
  | 111 => some a111
  | 112 => some a112
  | 113 => some a113
  | 114 => some a114
  | 115 => some a115
  | 116 => some a116
  | 117 => some a117
  | 118 => some a118
  | 119 => some a119
  | 120 => some a120
  | 121 => some a121
  | _ => none
theorem ft3 : ft 3 = some a3 := rfl
theorem ft4 : ft 4 = some a4 := rfl
theorem ft5 : ft 5 = some a5 := rfl
theorem ft6 : ft 6 = some a6 := rfl
theorem ft7 : ft 7 = some a7 := rfl
theorem ft8 : ft 8 = some a8 := rfl
theorem ft9 : ft 9 = some a9 := rfl
theorem ft10 : ft 10 = some a10 := rfl
theorem ft11 : ft 11 = some a11 := rfl
theorem ft12 : ft 12 = some a12 := rfl
theorem ft13 : ft 13 = some a13 := rfl
theorem ft14 : ft 14 = some a14 := rfl
theorem ft15 : ft 15 = some a15 := rfl
theorem ft16 : ft 16 = some a16 := rfl
theorem ft17 : ft 17 = some a17 := rfl
theorem ft18 : ft 18 = some a18 := rfl
theorem ft19 : ft 19 = some a19 := rfl
theorem ft20 : ft 20 = some a20 := rfl
theorem ft21 : ft 21 = some a21 := rfl
theorem ft22 : ft 22 = some a22 := rfl
theorem ft23 : ft 23 = some a23 := rfl
theorem ft24 : ft 24 = some a24 := rfl
theorem ft25 : ft 25 = some a25 := rfl
theorem ft26 : ft 26 = some a26 := rfl
theorem ft27 : ft 27 = some a27 := rfl
theorem ft28 : ft 28 = some a28 := rfl
theorem ft29 : ft 29 = some a29 := rfl
theorem ft30 : ft 30 = some a30 := rfl
theorem ft31 : ft 31 = some a31 := rfl
theorem ft32 : ft 32 = some a32 := rfl
theorem ft33 : ft 33 = some a33 := rfl
theorem ft34 : ft 34 = some a34 := rfl
theorem ft35 : ft 35 = some a35 := rfl
theorem ft36 : ft 36 = some a36 := rfl
theorem ft37 : ft 37 = some a37 := rfl
theorem ft38 : ft 38 = some a38 := rfl
theorem ft39 : ft 39 = some a39 := rfl
theorem ft40 : ft 40 = some a40 := rfl
theorem ft41 : ft 41 = some a41 := rfl
theorem ft42 : ft 42 = some a42 := rfl
theorem ft43 : ft 43 = some a43 := rfl
theorem ft44 : ft 44 = some a44 := rfl
theorem ft45 : ft 45 = some a45 := rfl
theorem ft46 : ft 46 = some a46 := rfl
theorem ft47 : ft 47 = some a47 := rfl
theorem ft48 : ft 48 = some a48 := rfl
theorem ft49 : ft 49 = some a49 := rfl
theorem ft50 : ft 50 = some a50 := rfl
theorem ft51 : ft 51 = some a51 := rfl
theorem ft52 : ft 52 = some a52 := rfl
theorem ft53 : ft 53 = some a53 := rfl
theorem ft54 : ft 54 = some a54 := rfl
theorem ft55 : ft 55 = some a55 := rfl
theorem ft56 : ft 56 = some a56 := rfl
theorem ft57 : ft 57 = some a57 := rfl
theorem ft58 : ft 58 = some a58 := rfl
theorem ft59 : ft 59 = some a59 := rfl
theorem ft60 : ft 60 = some a60 := rfl
theorem ft61 : ft 61 = some a61 := rfl
theorem ft62 : ft 62 = some a62 := rfl
theorem ft63 : ft 63 = some a63 := rfl
theorem ft64 : ft 64 = some a64 := rfl
theorem ft65 : ft 65 = some a65 := rfl
theorem ft66 : ft 66 = some a66 := rfl
theorem ft67 : ft 67 = some a67 := rfl
theorem ft68 : ft 68 = some a68 := rfl
theorem ft69 : ft 69 = some a69 := rfl
theorem ft70 : ft 70 = some a70 := rfl
theorem ft71 : ft 71 = some a71 := rfl
theorem ft72 : ft 72 = some a72 := rfl
theorem ft73 : ft 73 = some a73 := rfl
theorem ft74 : ft 74 = some a74 := rfl
theorem ft75 : ft 75 = some a75 := rfl
theorem ft76 : ft 76 = some a76 := rfl
theorem ft77 : ft 77 = some a77 := rfl
theorem ft78 : ft 78 = some a78 := rfl
theorem ft79 : ft 79 = some a79 := rfl
theorem ft80 : ft 80 = some a80 := rfl
theorem ft81 : ft 81 = some a81 := rfl
theorem ft82 : ft 82 = some a82 := rfl
theorem ft83 : ft 83 = some a83 := rfl
theorem ft84 : ft 84 = some a84 := rfl
theorem ft85 : ft 85 = some a85 := rfl
theorem ft86 : ft 86 = some a86 := rfl
theorem ft87 : ft 87 = some a87 := rfl
theorem ft88 : ft 88 = some a88 := rfl
theorem ft89 : ft 89 = some a89 := rfl
theorem ft90 : ft 90 = some a90 := rfl
theorem ft91 : ft 91 = some a91 := rfl
theorem ft92 : ft 92 = some a92 := rfl
theorem ft93 : ft 93 = some a93 := rfl
theorem ft94 : ft 94 = some a94 := rfl
theorem ft95 : ft 95 = some a95 := rfl
theorem ft96 : ft 96 = some a96 := rfl
theorem ft97 : ft 97 = some a97 := rfl
theorem ft98 : ft 98 = some a98 := rfl
theorem ft99 : ft 99 = some a99 := rfl
theorem ft100 : ft 100 = some a100 := rfl
theorem ft101 : ft 101 = some a101 := rfl
theorem ft102 : ft 102 = some a102 := rfl
theorem ft103 : ft 103 = some a103 := rfl
theorem ft104 : ft 104 = some a104 := rfl
theorem ft105 : ft 105 = some a105 := rfl
theorem ft106 : ft 106 = some a106 := rfl
theorem ft107 : ft 107 = some a107 := rfl
theorem ft108 : ft 108 = some a108 := rfl
theorem ft109 : ft 109 = some a109 := rfl
theorem ft110 : ft 110 = some a110 := rfl
theorem ft111 : ft 111 = some a111 := rfl
theorem ft112 : ft 112 = some a112 := rfl
theorem ft113 : ft 113 = some a113 := rfl
theorem ft114 : ft 114 = some a114 := rfl
theorem ft115 : ft 115 = some a115 := rfl
theorem ft116 : ft 116 = some a116 := rfl
theorem ft117 : ft 117 = some a117 := rfl
theorem ft118 : ft 118 = some a118 := rfl
theorem ft119 : ft 119 = some a119 := rfl
theorem ft120 : ft 120 = some a120 := rfl
theorem ft121 : ft 121 = some a121 := rfl
end Go.Ab.T
end

section
namespace Go.Ab.T
theorem WB3 (s : St) (as : List AV) (K : AV → St → Prop) : WB ft 3 as s K = WV ft 3 (as.map (snap s.mem dep)) fun v => (as.all (fun a => !hot dep a) || plain dep v) = true ∧ K v s := WB_v ft3 rfl as s K
theorem WB4 (s : St) (as : List AV) (K : AV → St → Prop) : WB ft 4 as s K = WV ft 4 (as.map (snap s.mem dep)) fun v => (as.all (fun a => !hot dep a) || plain dep v) = true ∧ K v s := WB_v ft4 rfl as s K
theorem WB5 (s : St) (as : List AV) (K : AV → St → Prop) : WB ft 5 as s K = WV ft 5 (as.map (snap s.mem dep)) fun v => (as.all (fun a => !hot dep a) || plain dep v) = true ∧ K v s := WB_v ft5 rfl as s K
theorem WB6 (s : St) (as : List AV) (K : AV → St → Prop) : WB ft 6 as s K = WV ft 6 (as.map (snap s.mem dep)) fun v => (as.all (fun a => !hot dep a) || plain dep v) = true ∧ K v s := WB_v ft6 rfl as s K
theorem WB7 (s : St) (as : List AV) (K : AV → St → Prop) : WB ft 7 as s K = WV ft 7 (as.map (snap s.mem dep)) fun v => (as.all (fun a => !hot dep a) || plain dep v) = true ∧ K v s := WB_v ft7 rfl as s K
theorem WB8 (s : St) (as : List AV) (K : AV → St → Prop) : WB ft 8 as s K = WV ft 8 (as.map (snap s.mem dep)) fun v => (as.all (fun a => !hot dep a) || plain dep v) = true ∧ K v s := WB_v ft8 rfl as s K
theorem WB9 (s : St) (as : List AV) (K : AV → St → Prop) : WB ft 9 as s K = WV ft 9 (as.map (snap s.mem dep)) fun v => (as.all (fun a => !hot dep a) || plain dep v) = true ∧ K v s := WB_v ft9 rfl as s K
theorem WB10 (s : St) (as : List AV) (K : AV → St → Prop) : WB ft 10 as s K = WV ft 10 (as.map (snap s.mem dep)) fun v => (as.all (fun a => !hot dep a) || plain dep v) = true ∧ K v s := WB_v ft10 rfl as s K
theorem WB11 (s : St) (as : List AV) (K : AV → St → Prop) : WB ft 11 as s K = WV ft 11 (as.map (snap s.mem dep)) fun v => (as.all (fun a => !hot dep a) || plain dep v) = true ∧ K v s := WB_v ft11 rfl as s K
theorem WB12 (s : St) (as : List AV) (K : AV → St → Prop) : WB ft 12 as s K = WV ft 12 (as.map (snap s.mem dep)) fun v => (as.all (fun a => !hot dep a) || plain dep v) = true ∧ K v s := WB_v ft12 rfl as s K
theorem WB13 (s : St) (as : List AV) (K : AV → St → Prop) : WB ft 13 as s K = WV ft 13 (as.map (snap s.mem dep)) fun v => (as.all (fun a => !hot dep a) || plain dep v) = true ∧ K v s := WB_v ft13 rfl as s K
theorem WB14 (s : St) (as : List AV) (K : AV → St → Prop) : WB ft 14 as s K = WV ft 14 (as.map (snap s.mem dep)) fun v => (as.all (fun a => !hot dep a) || plain dep v) = true ∧ K v s := WB_v ft14 rfl as s K
theorem WB15 (s : St) (as : List AV) (K : AV → St → Prop) : WB ft 15 as s K = WV ft 15 (as.map (snap s.mem dep)) fun v => (as.all (fun a => !hot dep a) || plain dep v) = true ∧ K v s := WB_v ft15 rfl as s K
theorem WB16 (s : St) (as : List AV) (K : AV → St → Prop) : WB ft 16 as s K = WV ft 16 (as.map (snap s.mem dep)) fun v => (as.all (fun a => !hot dep a) || plain dep v) = true ∧ K v s := WB_v ft16 rfl as s K
theorem WB17 (s : St) (as : List AV) (K : AV → St → Prop) : WB ft 17 as s K = WV ft 17 (as.map (snap s.mem dep)) fun v => (as.all (fun a => !hot dep a) || plain dep v) = true ∧ K v s := WB_v ft17 rfl as s K
theorem WB18 (s : St) (as : List AV) (K : AV → St → Prop) : WB ft 18 as s K = WV ft 18 (as.map (snap s.mem dep)) fun v => (as.all (fun a => !hot dep a) || plain dep v) = true ∧ K v s := WB_v ft18 rfl as s K
theorem WB19 (s : St) (as : List AV) (K : AV → St → Prop) : WB ft 19 as s K = WV ft 19 (as.map (snap s.mem dep)) fun v => (as.all (fun a => !hot dep a) || plain dep v) = true ∧ K v s := WB_v ft19 rfl as s K
theorem WB20 (s : St) (as : List AV) (K : AV → St → Prop) : WB ft 20 as s K = WV ft 20 (as.map (snap s.mem dep)) fun v => (as.all (fun a => !hot dep a) || plain dep v) = true ∧ K v s := WB_v ft20 rfl as s K
theorem WB21 (s : St) (as : List AV) (K : AV → St → Prop) : WB ft 21 as s K = WV ft 21 (as.map (snap s.mem dep)) fun v => (as.all (fun a => !hot dep a) || plain dep v) = true ∧ K v s := WB_v ft21 rfl as s K
theorem WB22 (s : St) (as : List AV) (K : AV → St → Prop) : WB ft 22 as s K = WV ft 22 (as.map (snap s.mem dep)) fun v => (as.all (fun a => !hot dep a) || plain dep v) = true ∧ K v s := WB_v ft22 rfl as s K
theorem WB23 (s : St) (as : List AV) (K : AV → St → Prop) : WB ft 23 as s K = WV ft 23 (as.map (snap s.mem dep)) fun v => (as.all (fun a => !hot dep a) || plain dep v) = true ∧ K v s := WB_v ft23 rfl as s K
theorem WB24 (s : St) (as : List AV) (K : AV → St → Prop) : WB ft 24 as s K = WV ft 24 (as.map (snap s.mem dep)) fun v => (as.all (fun a => !hot dep a) || plain dep v) = true ∧ K v s := WB_v ft24 rfl as s K
theorem WB25 (s : St) (as : List AV) (K : AV → St → Prop) : WB ft 25 as s K = WV ft 25 (as.map (snap s.mem dep)) fun v => (as.all (fun a => !hot dep a) || plain dep v) = true ∧ K v s := WB_v ft25 rfl as s K
theorem WB26 (s : St) (as : List AV) (K : AV → St → Prop) : WB ft 26 as s K = WV ft 26 (as.map (snap s.mem dep)) fun v => (as.all (fun a => !hot dep a) || plain dep v) = true ∧ K v s := WB_v ft26 rfl as s K
theorem WB27 (s : St) (as : List AV) (K : AV → St → Prop) : WB ft 27 as s K = WV ft 27 (as.map (snap s.mem dep)) fun v => (as.all (fun a => !hot dep a) || plain dep v) = true ∧ K v s := WB_v ft27 rfl as s K
theorem WB28 (s : St) (as : List AV) (K : AV → St → Prop) : WB ft 28 as s K = WV ft 28 (as.map (snap s.mem dep)) fun v => (as.all (fun a => !hot dep a) || plain dep v) = true ∧ K v s := WB_v ft28 rfl as s K
theorem WB29 (s : St) (as : List AV) (K : AV → St → Prop) : WB ft 29 as s K = WV ft 29 (as.map (snap s.mem dep)) fun v => (as.all (fun a => !hot dep a) || plain dep v) = true ∧ K v s := WB_v ft29 rfl as s K
theorem WB30 (s : St) (as : List AV) (K : AV → St → Prop) : WB ft 30 as s K = WV ft 30 (as.map (snap s.mem dep)) fun v => (as.all (fun a => !hot dep a) || plain dep v) = true ∧ K v s := WB_v ft30 rfl as s K
theorem WB31 (s : St) (as : List AV) (K : AV → St → Prop) : WB ft 31 as s K = WV ft 31 (as.map (snap s.mem dep)) fun v => (as.all (fun a => !hot dep a) || plain dep v) = true ∧ K v s := WB_v ft31 rfl as s K
theorem WB32 (s : St) (as : List AV) (K : AV → St → Prop) : WB ft 32 as s K = WV ft 32 (as.map (snap s.mem dep)) fun v => (as.all (fun a => !hot dep a) || plain dep v) = true ∧ K v s := WB_v ft32 rfl as s K
theorem WB33 (s : St) (as : List AV) (K : AV → St → Prop) : WB ft 33 as s K = WV ft 33 (as.map (snap s.mem dep)) fun v => (as.all (fun a => !hot dep a) || plain dep v) = true ∧ K v s := WB_v ft33 rfl as s K
theorem WB34 (s : St) (as : List AV) (K : AV → St → Prop) : WB ft 34 as s K = WR ft (.f 34) as s.mem fun v m => K v (s.setMem m) := WB_r ft34 rfl as s K
theorem WB35 (s : St) (as : List AV) (K : AV → St → Prop) : WB ft 35 as s K = WV ft 35 (as.map (snap s.mem dep)) fun v => (as.all (fun a => !hot dep a) || plain dep v) = true ∧ K v s := WB_v ft35 rfl as s K
theorem WB36 (s : St) (as : List AV) (K : AV → St → Prop) : WB ft 36 as s K = WR ft (.f 36) as s.mem fun v m => K v (s.setMem m) := WB_r ft36 rfl as s K
theorem WB37 (s : St) (as : List AV) (K : AV → St → Prop) : WB ft 37 as s K = WR ft (.f 37) as s.mem fun v m => K v (s.setMem m) := WB_r ft37 rfl as s K
theorem WB38 (s : St) (as : List AV) (K : AV → St → Prop) : WB ft 38 as s K = WR ft (.f 38) as s.mem fun v m => K v (s.setMem m) := WB_r ft38 rfl as s K
theorem WB39 (s : St) (as : List AV) (K : AV → St → Prop) : WB ft 39 as s K = WV ft 39 (as.map (snap s.mem dep)) fun v => (as.all (fun a => !hot dep a) || plain dep v) = true ∧ K v s := WB_v ft39 rfl as s K
theorem WB40 (s : St) (as : List AV) (K : AV → St → Prop) : WB ft 40 as s K = WR ft (.f 40) as s.mem fun v m => K v (s.setMem m) := WB_r ft40 rfl as s K
theorem WB41 (s : St) (as : List AV) (K : AV → St → Prop) : WB ft 41 as s K = WV ft 41 (as.map (snap s.mem dep)) fun v => (as.all (fun a => !hot dep a) || plain dep v) = true ∧ K v s := WB_v ft41 rfl as s K
theorem WB42 (s : St) (as : List AV) (K : AV → St → Prop) : WB ft 42 as s K = WR ft (.f 42) as s.mem fun v m => K v (s.setMem m) := WB_r ft42 rfl as s K
theorem WB43 (s : St) (as : List AV) (K : AV → St → Prop) : WB ft 43 as s K = WV ft 43 (as.map (snap s.mem dep)) fun v => (as.all (fun a => !hot dep a) || plain dep v) = true ∧ K v s := WB_v ft43 rfl as s K
theorem WB44 (s : St) (as : List AV) (K : AV → St → Prop) : WB ft 44 as s K = WV ft 44 (as.map (snap s.mem dep)) fun v => (as.all (fun a => !hot dep a) || plain dep v) = true ∧ K v s := WB_v ft44 rfl as s K
theorem WB45 (s : St) (as : List AV) (K : AV → St → Prop) : WB ft 45 as s K = WV ft 45 (as.map (snap s.mem dep)) fun v => (as.all (fun a => !hot dep a) || plain dep v) = true ∧ K v s := WB_v ft45 rfl as s K
theorem WB46 (s : St) (as : List AV) (K : AV → St → Prop) : WB ft 46 as s K = WV ft 46 (as.map (snap s.mem dep)) fun v => (as.all (fun a => !hot dep a) || plain dep v) = true ∧ K v s := WB_v ft46 rfl as s K
theorem WB47 (s : St) (as : List AV) (K : AV → St → Prop) : WB ft 47 as s K = WV ft 47 (as.map (snap s.mem dep)) fun v => (as.all (fun a => !hot dep a) || plain dep v) = true ∧ K v s := WB_v ft47 rfl as s K
theorem WB48 (s : St) (as : List AV) (K : AV → St → Prop) : WB ft 48 as s K = WV ft 48 (as.map (snap s.mem dep)) fun v => (as.all (fun a => !hot dep a) || plain dep v) = true ∧ K v s := WB_v ft48 rfl as s K
theorem WB49 (s : St) (as : List AV) (K : AV → St → Prop) : WB ft 49 as s K = WV ft 49 (as.map (snap s.mem dep)) fun v => (as.all (fun a => !hot dep a) || plain dep v) = true ∧ K v s := WB_v ft49 rfl as s K
theorem WB50 (s : St) (as : List AV) (K : AV → St → Prop) : WB ft 50 as s K = WV ft 50 (as.map (snap s.mem dep)) fun v => (as.all (fun a => !hot dep a) || plain dep v) = true ∧ K v s := WB_v ft50 rfl as s K
theorem WB51 (s : St) (as : List AV) (K : AV → St → Prop) : WB ft 51 as s K = WR ft (.f 51) (as.map (snap s.mem dep)) .nil fun v m => (as.all (fun a => !hot dep a) || (ownly dep v && m.blks.all Blk.ownly)) = true ∧
      K (shift s.mem.blks.length s.mem.toks.length dep v) (s.setMem (joinMem s.mem m dep)) := WB_o ft51 rfl as s K
theorem WB52 (s : St) (as : List AV) (K : AV → St → Prop) : WB ft 52 as s K = WR ft (.f 52) as s.mem fun v m => K v (s.setMem m) := WB_r ft52 rfl as s K
theorem WB53 (s : St) (as : List AV) (K : AV → St → Prop) : WB ft 53 as s K = WR ft (.f 53) as s.mem fun v m => K v (s.setMem m) := WB_r ft53 rfl as s K
theorem WB54 (s : St) (as : List AV) (K : AV → St → Prop) : WB ft 54 as s K = WR ft (.f 54) as s.mem fun v m => K v (s.setMem m) := WB_r ft54 rfl as s K
theorem WB55 (s : St) (as : List AV) (K : AV → St → Prop) : WB ft 55 as s K = WV ft 55 (as.map (snap s.mem dep)) fun v => (as.all (fun a => !hot dep a) || plain dep v) = true ∧ K v s := WB_v ft55 rfl as s K
theorem WB56 (s : St) (as : List AV) (K : AV → St → Prop) : WB ft 56 as s K = WR ft (.f 56) as s.mem fun v m => K v (s.setMem m) := WB_r ft56 rfl as s K
theorem WB57 (s : St) (as : List AV) (K : AV → St → Prop) : WB ft 57 as s K = WV ft 57 (as.map (snap s.mem dep)) fun v => (as.all (fun a => !hot dep a) || plain dep v) = true ∧ K v s := WB_v ft57 rfl as s K
theorem WB58 (s : St) (as : List AV) (K : AV → St → Prop) : WB ft 58 as s K = WR ft (.f 58) as s.mem fun v m => K v (s.setMem m) := WB_r ft58 rfl as s K
theorem WB59 (s : St) (as : List AV) (K : AV → St → Prop) : WB ft 59 as s K = WV ft 59 (as.map (snap s.mem dep)) fun v => (as.all (fun a => !hot dep a) || plain dep v) = true ∧ K v s := WB_v ft59 rfl as s K
theorem WB60 (s : St) (as : List AV) (K : AV → St → Prop) : WB ft 60 as s K = WV ft 60 (as.map (snap s.mem dep)) fun v => (as.all (fun a => !hot dep a) || plain dep v) = true ∧ K v s := WB_v ft60 rfl as s K
theorem WB61 (s : St) (as : List AV) (K : AV → St → Prop) : WB ft 61 as s K = WV ft 61 (as.map (snap s.mem dep)) fun v => (as.all (fun a => !hot dep a) || plain dep v) = true ∧ K v s := WB_v ft61 rfl as s K
theorem WB62 (s : St) (as : List AV) (K : AV → St → Prop) : WB ft 62 as s K = WV ft 62 (as.map (snap s.mem dep)) fun v => (as.all (fun a => !hot dep a) || plain dep v) = true ∧ K v s := WB_v ft62 rfl as s K
theorem WB63 (s : St) (as : List AV) (K : AV → St → Prop) : WB ft 63 as s K = WV ft 63 (as.map (snap s.mem dep)) fun v => (as.all (fun a => !hot dep a) || plain dep v) = true ∧ K v s := WB_v ft63 rfl as s K
theorem WB64 (s : St) (as : List AV) (K : AV → St → Prop) : WB ft 64 as s K = WR ft (.f 64) (as.map (snap s.mem dep)) .nil fun v m => (as.all (fun a => !hot dep a) || (ownly dep v && m.blks.all Blk.ownly)) = true ∧
      K (shift s.mem.blks.length s.mem.toks.length dep v) (s.setMem (joinMem s.mem m dep)) := WB_o ft64 rfl as s K
theorem WB65 (s : St) (as : List AV) (K : AV → St → Prop) : WB ft 65 as s K = WV ft 65 (as.map (snap s.mem dep)) fun v => (as.all (fun a => !hot dep a) || plain dep v) = true ∧ K v s := WB_v ft65 rfl as s K
theorem WB66 (s : St) (as : List AV) (K : AV → St → Prop) : WB ft 66 as s K = WV ft 66 (as.map (snap s.mem dep)) fun v => (as.all (fun a => !hot dep a) || plain dep v) = true ∧ K v s := WB_v ft66 rfl as s K
theorem WB67 (s : St) (as : List AV) (K : AV → St → Prop) : WB ft 67 as s K = WV ft 67 (as.map (snap s.mem dep)) fun v => (as.all (fun a => !hot dep a) || plain dep v) = true ∧ K v s := WB_v ft67 rfl as s K
theorem WB68 (s : St) (as : List AV) (K : AV → St → Prop) : WB ft 68 as s K = WV ft 68 (as.map (snap s.mem dep)) fun v => (as.all (fun a => !hot dep a) || plain dep v) = true ∧ K v s := WB_v ft68 rfl as s K
theorem WB69 (s : St) (as : List AV) (K : AV → St → Prop) : WB ft 69 as s K = WR ft (.f 69) (as.map (snap s.mem dep)) .nil fun v m => (as.all (fun a => !hot dep a) || (ownly dep v && m.blks.all Blk.ownly)) = true ∧
      K (shift s.mem.blks.length s.mem.toks.length dep v) (s.setMem (joinMem s.mem m dep)) := WB_o ft69 rfl as s K
theorem WB70 (s : St) (as : List AV) (K : AV → St → Prop) : WB ft 70 as s K = WR ft (.f 70) as s.mem fun v m => K v (s.setMem m) := WB_r ft70 rfl as s K
theorem WB71 (s : St) (as : List AV) (K : AV → St → Prop) : WB ft 71 as s K = WV ft 71 (as.map (snap s.mem dep)) fun v => (as.all (fun a => !hot dep a) || plain dep v) = true ∧ K v s := WB_v ft71 rfl as s K
theorem WB72 (s : St) (as : List AV) (K : AV → St → Prop) : WB ft 72 as s K = WV ft 72 (as.map (snap s.mem dep)) fun v => (as.all (fun a => !hot dep a) || plain dep v) = true ∧ K v s := WB_v ft72 rfl as s K
theorem WB73 (s : St) (as : List AV) (K : AV → St → Prop) : WB ft 73 as s K = WV ft 73 (as.map (snap s.mem dep)) fun v => (as.all (fun a => !hot dep a) || plain dep v) = true ∧ K v s := WB_v ft73 rfl as s K
theorem WB74 (s : St) (as : List AV) (K : AV → St → Prop) : WB ft 74 as s K = WR ft (.f 74) as s.mem fun v m => K v (s.setMem m) := WB_r ft74 rfl as s K
theorem WB75 (s : St) (as : List AV) (K : AV → St → Prop) : WB ft 75 as s K = WR ft (.f 75) as s.mem fun v m => K v (s.setMem m) := WB_r ft75 rfl as s K
theorem WB76 (s : St) (as : List AV) (K : AV → St → Prop) : WB ft 76 as s K = WR ft (.f 76) as s.mem fun v m => K v (s.setMem m) := WB_r ft76 rfl as s K
theorem WB77 (s : St) (as : List AV) (K : AV → St → Prop) : WB ft 77 as s K = WR ft (.f 77) as s.mem fun v m => K v (s.setMem m) := WB_r ft77 rfl as s K
theorem WB78 (s : St) (as : List AV) (K : AV → St → Prop) : WB ft 78 as s K = WR ft (.f 78) as s.mem fun v m => K v (s.setMem m) := WB_r ft78 rfl as s K
theorem WB79 (s : St) (as : List AV) (K : AV → St → Prop) : WB ft 79 as s K = WR ft (.f 79) as s.mem fun v m => K v (s.setMem m) := WB_r ft79 rfl as s K
theorem WB80 (s : St) (as : List AV) (K : AV → St → Prop) : WB ft 80 as s K = WR ft (.f 80) as s.mem fun v m => K v (s.setMem m) := WB_r ft80 rfl as s K
theorem WB81 (s : St) (as : List AV) (K : AV → St → Prop) : WB ft 81 as s K = WR ft (.f 81) as s.mem fun v m => K v (s.setMem m) := WB_r ft81 rfl as s K
theorem WB82 (s : St) (as : List AV) (K : AV → St → Prop) : WB ft 82 as s K = WR ft (.f 82) as s.mem fun v m => K v (s.setMem m) := WB_r ft82 rfl as s K
theorem WB83 (s : St) (as : List AV) (K : AV → St → Prop) : WB ft 83 as s K = WR ft (.f 83) as s.mem fun v m => K v (s.setMem m) := WB_r ft83 rfl as s K
theorem WB84 (s : St) (as : List AV) (K : AV → St → Prop) : WB ft 84 as s K = WR ft (.f 84) as s.mem fun v m => K v (s.setMem m) := WB_r ft84 rfl as s K
theorem WB85 (s : St) (as : List AV) (K : AV → St → Prop) : WB ft 85 as s K = WV ft 85 (as.map (snap s.mem dep)) fun v => (as.all (fun a => !hot dep a) || plain dep v) = true ∧ K v s := WB_v ft85 rfl as s K
theorem WB86 (s : St) (as : List AV) (K : AV → St → Prop) : WB ft 86 as s K = WR ft (.f 86) as s.mem fun v m => K v (s.setMem m) := WB_r ft86 rfl as s K
theorem WB87 (s : St) (as : List AV) (K : AV → St → Prop) : WB ft 87 as s K = WR ft (.f 87) as s.mem fun v m => K v (s.setMem m) := WB_r ft87 rfl as s K
theorem WB88 (s : St) (as : List AV) (K : AV → St → Prop) : WB ft 88 as s K = WV ft 88 (as.map (snap s.mem dep)) fun v => (as.all (fun a => !hot dep a) || plain dep v) = true ∧ K v s := WB_v ft88 rfl as s K
theorem WB89 (s : St) (as : List AV) (K : AV → St → Prop) : WB ft 89 as s K = WV ft 89 (as.map (snap s.mem dep)) fun v => (as.all (fun a => !hot dep a) || plain dep v) = true ∧ K v s := WB_v ft89 rfl as s K
theorem WB90 (s : St) (as : List AV) (K : AV → St → Prop) : WB ft 90 as s K = WV ft 90 (as.map (snap s.mem dep)) fun v => (as.all (fun a => !hot dep a) || plain dep v) = true ∧ K v s := WB_v ft90 rfl as s K
theorem WB91 (s : St) (as : List AV) (K : AV → St → Prop) : WB ft 91 as s K = WV ft 91 (as.map (snap s.mem dep)) fun v => (as.all (fun a => !hot dep a) || plain dep v) = true ∧ K v s := WB_v ft91 rfl as s K
theorem WB92 (s : St) (as : List AV) (K : AV → St → Prop) : WB ft 92 as s K = WV ft 92 (as.map (snap s.mem dep)) fun v => (as.all (fun a => !hot dep a) || plain dep v) = true ∧ K v s := WB_v ft92 rfl as s K
theorem WB93 (s : St) (as : List AV) (K : AV → St → Prop) : WB ft 93 as s K = WV ft 93 (as.map (snap s.mem dep)) fun v => (as.all (fun a => !hot dep a) || plain dep v) = true ∧ K v s := WB_v ft93 rfl as s K
theorem WB94 (s : St) (as : List AV) (K : AV → St → Prop) : WB ft 94 as s K = WV ft 94 (as.map (snap s.mem dep)) fun v => (as.all (fun a => !hot dep a) || plain dep v) = true ∧ K v s := WB_v ft94 rfl as s K
theorem WB95 (s : St) (as : List AV) (K : AV → St → Prop) : WB ft 95 as s K = WV ft 95 (as.map (snap s.mem dep)) fun v => (as.all (fun a => !hot dep a) || plain dep v) = true ∧ K v s := WB_v ft95 rfl as s K
theorem WB96 (s : St) (as : List AV) (K : AV → St → Prop) : WB ft 96 as s K = WV ft 96 (as.map (snap s.mem dep)) fun v => (as.all (fun a => !hot dep a) || plain dep v) = true ∧ K v s := WB_v ft96 rfl as s K
theorem WB97 (s : St) (as : List AV) (K : AV → St → Prop) : WB ft 97 as s K = WR ft (.f 97) as s.mem fun v m => K v (s.setMem m) := WB_r ft97 rfl as s K
theorem WB98 (s : St) (as : List AV) (K : AV → St → Prop) : WB ft 98 as s K = WV ft 98 (as.map (snap s.mem dep)) fun v => (as.all (fun a => !hot dep a) || plain dep v) = true ∧ K v s := WB_v ft98 rfl as s K
theorem WB99 (s : St) (as : List AV) (K : AV → St → Prop) : WB ft 99 as s K = WR ft (.f 99) as s.mem fun v m => K v (s.setMem m) := WB_r ft99 rfl as s K
theorem WB100 (s : St) (as : List AV) (K : AV → St → Prop) : WB ft 100 as s K = WR ft (.f 100) as s.mem fun v m => K v (s.setMem m) := WB_r ft100 rfl as s K
theorem WB101 (s : St) (as : List AV) (K : AV → St → Prop) : WB ft 101 as s K = WV ft 101 (as.map (snap s.mem dep)) fun v => (as.all (fun a => !hot dep a) || plain dep v) = true ∧ K v s := WB_v ft101 rfl as s K
theorem WB102 (s : St) (as : List AV) (K : AV → St → Prop) : WB ft 102 as s K = WR ft (.f 102) as s.mem fun v m => K v (s.setMem m) := WB_r ft102 rfl as s K
theorem WB103 (s : St) (as : List AV) (K : AV → St → Prop) : WB ft 103 as s K = WR ft (.f 103) as s.mem fun v m => K v (s.setMem m) := WB_r ft103 rfl as s K
theorem WB104 (s : St) (as : List AV) (K : AV → St → Prop) : WB ft 104 as s K = WR ft (.f 104) as s.mem fun v m => K v (s.setMem m) := WB_r ft104 rfl as s K
theorem WB105 (s : St) (as : List AV) (K : AV → St → Prop) : WB ft 105 as s K = WV ft 105 (as.map (snap s.mem dep)) fun v => (as.all (fun a => !hot dep a) || plain dep v) = true ∧ K v s := WB_v ft105 rfl as s K
theorem WB106 (s : St) (as : List AV) (K : AV → St → Prop) : WB ft 106 as s K = WV ft 106 (as.map (snap s.mem dep)) fun v => (as.all (fun a => !hot dep a) || plain dep v) = true ∧ K v s := WB_v ft106 rfl as s K
theorem WB107 (s : St) (as : List AV) (K : AV → St → Prop) : WB ft 107 as s K = WV ft 107 (as.map (snap s.mem dep)) fun v => (as.all (fun a => !hot dep a) || plain dep v) = true ∧ K v s := WB_v ft107 rfl as s K
theorem WB108 (s : St) (as : List AV) (K : AV → St → Prop) : WB ft 108 as s K = WR ft (.f 108) as s.mem fun v m => K v (s.setMem m) := WB_r ft108 rfl as s K
theorem WB109 (s : St) (as : List AV) (K : AV → St → Prop) : WB ft 109 as s K = WR ft (.f 109) as s.mem fun v m => K v (s.setMem m) := WB_r ft109 rfl as s K
theorem WB110 (s : St) (as : List AV) (K : AV → St → Prop) : WB ft 110 as s K = WR ft (.f 110) as s.mem fun v m => K v (s.setMem m) := WB_r ft110 rfl as s K
theorem WB111 (s : St) (as : List AV) (K : AV → St → Prop) : WB ft 111 as s K = WR ft (.f 111) as s.mem fun v m => K v (s.setMem m) := WB_r ft111 rfl as s K
theorem WB112 (s : St) (as : List AV) (K : AV → St → Prop) : WB ft 112 as s K = WR ft (.f 112) as s.mem fun v m => K v (s.setMem m) := WB_r ft112 rfl as s K
theorem WB113 (s : St) (as : List AV) (K : AV → St → Prop) : WB ft 113 as s K = WR ft (.f 113) as s.mem fun v m => K v (s.setMem m) := WB_r ft113 rfl as s K
theorem WB114 (s : St) (as : List AV) (K : AV → St → Prop) : WB ft 114 as s K = WR ft (.f 114) as s.mem fun v m => K v (s.setMem m) := WB_r ft114 rfl as s K
theorem WB115 (s : St) (as : List AV) (K : AV → St → Prop) : WB ft 115 as s K = WR ft (.f 115) as s.mem fun v m => K v (s.setMem m) := WB_r ft115 rfl as s K
theorem WB116 (s : St) (as : List AV) (K : AV → St → Prop) : WB ft 116 as s K = WR ft (.f 116) as s.mem fun v m => K v (s.setMem m) := WB_r ft116 rfl as s K
theorem WB117 (s : St) (as : List AV) (K : AV → St → Prop) : WB ft 117 as s K = WV ft 117 (as.map (snap s.mem dep)) fun v => (as.all (fun a => !hot dep a) || plain dep v) = true ∧ K v s := WB_v ft117 rfl as s K
theorem WB118 (s : St) (as : List AV) (K : AV → St → Prop) : WB ft 118 as s K = WR ft (.f 118) as s.mem fun v m => K v (s.setMem m) := WB_r ft118 rfl as s K
theorem WB119 (s : St) (as : List AV) (K : AV → St → Prop) : WB ft 119 as s K = WR ft (.f 119) as s.mem fun v m => K v (s.setMem m) := WB_r ft119 rfl as s K
theorem WB120 (s : St) (as : List AV) (K : AV → St → Prop) : WB ft 120 as s K = WR ft (.f 120) as s.mem fun v m => K v (s.setMem m) := WB_r ft120 rfl as s K
theorem WB121 (s : St) (as : List AV) (K : AV → St → Prop) : WB ft 121 as s K = WR ft (.f 121) as s.mem fun v m => K v (s.setMem m) := WB_r ft121 rfl as s K
end Go.Ab.T
end
