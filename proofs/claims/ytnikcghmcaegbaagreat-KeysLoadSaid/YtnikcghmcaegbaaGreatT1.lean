/-
 A part of the proofs over this seat.
 (The texts KxT KxW, one behind the other.)
-/
import Derived.Test.YtnikcghmcaegbaaGreatA0
import Derived.Test.YtnikcghmcaegbaaGreatB1
set_option linter.unusedSimpArgs false
set_option linter.unusedVariables false
set_option linter.unusedSectionVars false
section
namespace Go.Ab.T
def c4 : ACode := .seq (.region [⟨some 2,none,.box (.t 0) 5⟩,⟨some 3,none,.box (.t 1) 3⟩,⟨some 4,none,.mov (.c (.bool false))⟩])
 (.seq (.seq (.region [⟨some 20,none,.load (.t 2) (some 5)⟩,⟨some 21,none,.load (.t 3) (some 3)⟩,⟨some 22,none,.call 14 [(.t 20), (.t 21)]⟩,⟨some 23,none,.not (.t 22)⟩])
 (.cond (.t 23) (.seq (.region [⟨some 24,none,.call 15 []⟩,⟨some 4,none,.mov (.t 24)⟩])
 (.ret))
 (.skip)))
 (.seq (.region [⟨some 26,none,.load (.t 2) (some 5)⟩,⟨some 27,none,.addr (.t 3) 0⟩,⟨some 28,none,.load (.t 27) none⟩,⟨some 29,none,.call 21 [(.t 26), (.t 28)]⟩,⟨some 25,none,.mov (.t 29)⟩,⟨some 30,none,.ext (.t 25) 0⟩,⟨some 31,none,.ext (.t 25) 1⟩,⟨some 5,none,.new (.agg [(.int .i64 0), (.int .i64 0), (.int .i64 0), (.int .i64 0), (.int .i64 0), (.bool false), (.sl [] .tight)]) 7⟩,⟨none,none,.store (.t 5) (.t 30) 7⟩,⟨some 6,none,.mov (.t 31)⟩])
 (.seq (.region [⟨some 33,none,.load (.t 2) (some 5)⟩,⟨some 34,none,.addr (.t 3) 1⟩,⟨some 35,none,.load (.t 34) none⟩,⟨some 36,none,.call 22 [(.t 33), (.t 35)]⟩,⟨some 32,none,.mov (.t 36)⟩,⟨some 37,none,.ext (.t 32) 0⟩,⟨some 38,none,.ext (.t 32) 1⟩,⟨some 7,none,.new (.agg [(.int .i64 0), (.sl [] .tight), (.sl [] .tight)]) 3⟩,⟨none,none,.store (.t 7) (.t 37) 3⟩,⟨some 8,none,.mov (.t 38)⟩])
 (.seq (.region [⟨some 40,none,.load (.t 2) (some 5)⟩,⟨some 41,none,.addr (.t 3) 0⟩,⟨some 42,none,.load (.t 41) none⟩,⟨some 43,none,.addr (.t 3) 1⟩,⟨some 44,none,.load (.t 43) none⟩,⟨some 45,none,.addr (.t 3) 2⟩,⟨some 46,none,.load (.t 45) none⟩,⟨some 47,none,.call 18 [(.t 40), (.t 42), (.t 44), (.t 46)]⟩,⟨some 39,none,.mov (.t 47)⟩,⟨some 48,none,.ext (.t 39) 0⟩,⟨some 49,none,.ext (.t 39) 1⟩,⟨some 50,none,.ext (.t 39) 2⟩,⟨some 9,none,.mov (.t 48)⟩,⟨some 10,none,.mov (.t 49)⟩,⟨some 11,none,.mov (.t 50)⟩])
 (.seq (.region [⟨some 52,none,.load (.t 2) (some 5)⟩,⟨some 53,none,.addr (.t 3) 0⟩,⟨some 54,none,.load (.t 53) none⟩,⟨some 55,none,.addr (.t 3) 1⟩,⟨some 56,none,.load (.t 55) none⟩,⟨some 57,none,.call 23 [(.t 52), (.t 54), (.t 56)]⟩,⟨some 51,none,.mov (.t 57)⟩,⟨some 58,none,.ext (.t 51) 0⟩,⟨some 59,none,.ext (.t 51) 1⟩,⟨some 12,none,.mov (.t 58)⟩,⟨some 13,none,.mov (.t 59)⟩])
 (.seq (.region [⟨some 61,none,.load (.t 2) (some 5)⟩,⟨some 62,none,.addr (.t 3) 0⟩,⟨some 63,none,.load (.t 62) none⟩,⟨some 64,none,.addr (.t 3) 1⟩,⟨some 65,none,.load (.t 64) none⟩,⟨some 66,none,.call 24 [(.t 61), (.t 63), (.t 65)]⟩,⟨some 60,none,.mov (.t 66)⟩,⟨some 67,none,.ext (.t 60) 0⟩,⟨some 68,none,.ext (.t 60) 1⟩,⟨some 14,none,.mov (.t 67)⟩,⟨some 15,none,.mov (.t 68)⟩])
 (.seq (.seq (.region [⟨some 69,none,.mov (.t 11)⟩,⟨some 70,none,.bin .neq (.t 69) (.c (.int .i64 0))⟩,⟨some 71,none,.mov (.t 70)⟩,⟨some 72, some (71, false),.mov (.t 13)⟩,⟨some 73, some (71, false),.bin .neq (.t 72) (.c (.int .i64 0))⟩,⟨some 74,none,.pick (.t 71) (.c (.bool true)) (.t 73)⟩,⟨some 75,none,.mov (.t 74)⟩,⟨some 76, some (75, false),.mov (.t 15)⟩,⟨some 77, some (75, false),.bin .neq (.t 76) (.c (.int .i64 0))⟩,⟨some 78,none,.pick (.t 75) (.c (.bool true)) (.t 77)⟩,⟨some 79,none,.mov (.t 78)⟩,⟨some 80, some (79, false),.mov (.t 12)⟩,⟨some 81, some (79, false),.len (.t 80)⟩,⟨some 82, some (79, false),.bin .gtr (.t 81) (.c (.int .i64 30))⟩,⟨some 83,none,.pick (.t 79) (.c (.bool true)) (.t 82)⟩])
 (.cond (.t 83) (.seq (.region [⟨some 4,none,.mov (.c (.bool false))⟩])
 (.ret))
 (.skip)))
 (.seq (.seq (.region [⟨some 16,none,.mov (.c (.int .i64 0))⟩])
 (.block 0 (.loop (.seq (.seq (.region [⟨some 84,none,.mov (.t 16)⟩,⟨some 85,none,.mov (.t 12)⟩,⟨some 86,none,.len (.t 85)⟩,⟨some 87,none,.bin .lss (.t 84) (.t 86)⟩])
 (.cond (.t 87) (.skip)
 (.exit 0)))
 (.seq (.block 1 (.seq (.region [⟨some 90,none,.mov (.t 12)⟩,⟨some 91,none,.mov (.t 16)⟩,⟨some 92,none,.idx (.t 90) (.t 91) 2⟩,⟨some 93,none,.addr (.t 92) 0⟩,⟨some 94,none,.load (.t 93) none⟩,⟨some 95,none,.bin .lss (.t 94) (.c (.int .i64 0))⟩,⟨some 96,none,.mov (.t 95)⟩,⟨some 97, some (96, false),.mov (.t 12)⟩,⟨some 98, some (96, false),.mov (.t 16)⟩,⟨some 99, some (96, false),.idx (.t 97) (.t 98) 2⟩,⟨some 100, some (96, false),.addr (.t 99) 0⟩,⟨some 101, some (96, false),.load (.t 100) none⟩,⟨some 102, some (96, false),.mov (.t 12)⟩,⟨some 103, some (96, false),.mov (.t 16)⟩,⟨some 104, some (96, false),.idx (.t 102) (.t 103) 2⟩,⟨some 105, some (96, false),.addr (.t 104) 1⟩,⟨some 106, some (96, false),.load (.t 105) none⟩,⟨some 107, some (96, false),.bin .gtr (.t 101) (.t 106)⟩,⟨some 108,none,.pick (.t 96) (.c (.bool true)) (.t 107)⟩,⟨some 109,none,.mov (.t 108)⟩,⟨some 110, some (109, false),.mov (.t 12)⟩,⟨some 111, some (109, false),.mov (.t 16)⟩,⟨some 112, some (109, false),.idx (.t 110) (.t 111) 2⟩,⟨some 113, some (109, false),.addr (.t 112) 1⟩,⟨some 114, some (109, false),.load (.t 113) none⟩,⟨some 115, some (109, false),.bin .gtr (.t 114) (.c (.int .i64 9999))⟩,⟨some 116,none,.pick (.t 109) (.c (.bool true)) (.t 115)⟩,⟨some 117,none,.mov (.t 116)⟩,⟨some 118, some (117, false),.mov (.t 16)⟩,⟨some 119, some (117, false),.bin .gtr (.t 118) (.c (.int .i64 0))⟩,⟨some 120, some (117, false),.mov (.t 119)⟩,⟨some 121, some (120, true),.mov (.t 12)⟩,⟨some 122, some (120, true),.mov (.t 16)⟩,⟨some 123, some (120, true),.idx (.t 121) (.t 122) 2⟩,⟨some 124, some (120, true),.addr (.t 123) 0⟩,⟨some 125, some (120, true),.load (.t 124) none⟩,⟨some 126, some (120, true),.mov (.t 12)⟩,⟨some 127, some (120, true),.mov (.t 16)⟩,⟨some 128, some (120, true),.bin .sub (.t 127) (.c (.int .i64 1))⟩,⟨some 129, some (120, true),.idx (.t 126) (.t 128) 2⟩,⟨some 130, some (120, true),.addr (.t 129) 1⟩,⟨some 131, some (120, true),.load (.t 130) none⟩,⟨some 132, some (120, true),.bin .add (.t 131) (.c (.int .i64 1))⟩,⟨some 133, some (120, true),.bin .leq (.t 125) (.t 132)⟩,⟨some 134, some (117, false),.pick (.t 120) (.t 133) (.c (.bool false))⟩,⟨some 135,none,.pick (.t 117) (.c (.bool true)) (.t 134)⟩])
 (.cond (.t 135) (.seq (.region [⟨some 4,none,.mov (.c (.bool false))⟩])
 (.ret))
 (.skip))))
 (.region [⟨some 88,none,.mov (.t 16)⟩,⟨some 89,none,.bin .add (.t 88) (.c (.int .i64 1))⟩,⟨some 16,none,.mov (.t 89)⟩]))))))
 (.seq (.region [⟨some 17,none,.mov (.c (.bool true))⟩,⟨some 18,none,.mov (.c (.int .i64 (-1)))⟩])
 (.seq (.seq (.region [⟨some 136,none,.addr (.t 3) 2⟩,⟨some 137,none,.load (.t 136) none⟩,⟨some 19,none,.mov (.t 137)⟩])
 (.block 2 (.loop (.seq (.seq (.region [⟨some 138,none,.mov (.t 19)⟩,⟨some 139,none,.addr (.t 3) 2⟩,⟨some 140,none,.load (.t 139) none⟩,⟨some 141,none,.addr (.t 5) 4⟩,⟨some 142,none,.load (.t 141) none⟩,⟨some 143,none,.bin .add (.t 140) (.t 142)⟩,⟨some 144,none,.bin .lss (.t 138) (.t 143)⟩])
 (.cond (.t 144) (.skip)
 (.exit 2)))
 (.seq (.block 3 (.seq (.region [⟨some 147,none,.mov (.t 12)⟩,⟨some 148,none,.mov (.t 19)⟩,⟨some 149,none,.call 25 [(.t 147), (.t 148)]⟩,⟨some 150,none,.not (.t 149)⟩])
 (.cond (.t 150) (.seq (.seq (.region [⟨some 151,none,.mov (.t 17)⟩])
 (.cond (.t 151) (.region [⟨some 152,none,.mov (.t 19)⟩,⟨some 18,none,.mov (.t 152)⟩])
 (.skip)))
 (.region [⟨some 17,none,.mov (.c (.bool false))⟩]))
 (.skip))))
 (.region [⟨some 145,none,.mov (.t 19)⟩,⟨some 146,none,.bin .add (.t 145) (.c (.int .i64 1))⟩,⟨some 19,none,.mov (.t 146)⟩]))))))
 (.seq (.seq (.region [⟨some 153,none,.mov (.t 9)⟩,⟨some 154,none,.bin .eql (.t 153) (.c (.int .i64 0))⟩,⟨some 155,none,.mov (.t 17)⟩,⟨some 156,none,.mov (.t 155)⟩,⟨some 157, some (156, true),.mov (.t 14)⟩,⟨some 158, some (156, true),.len (.t 157)⟩,⟨some 159, some (156, true),.bin .eql (.t 158) (.c (.int .i64 0))⟩,⟨some 160,none,.pick (.t 156) (.t 159) (.c (.bool false))⟩,⟨some 161,none,.eqv true false [.b] (.t 154) (.t 160)⟩])
 (.cond (.t 161) (.seq (.region [⟨some 4,none,.mov (.c (.bool false))⟩])
 (.ret))
 (.skip)))
 (.seq (.seq (.region [⟨some 162,none,.mov (.t 9)⟩])
 (.block 4 (.seq (.region [⟨some 164,none,.bin .eql (.t 162) (.c (.int .i64 0))⟩,⟨some 163,none,.mov (.t 164)⟩])
 (.cond (.t 163) (.seq (.region [⟨some 165,none,.mov (.t 10)⟩,⟨some 166,none,.addr (.t 3) 2⟩,⟨some 167,none,.load (.t 166) none⟩,⟨some 168,none,.addr (.t 5) 4⟩,⟨some 169,none,.load (.t 168) none⟩,⟨some 170,none,.bin .add (.t 167) (.t 169)⟩,⟨some 171,none,.bin .sub (.t 170) (.c (.int .i64 1))⟩,⟨some 172,none,.bin .eql (.t 165) (.t 171)⟩,⟨some 173,none,.mov (.t 172)⟩,⟨some 174, some (173, true),.call 15 []⟩,⟨some 175,none,.pick (.t 173) (.t 174) (.c (.bool false))⟩,⟨some 4,none,.mov (.t 175)⟩])
 (.ret))
 (.seq (.region [⟨some 177,none,.bin .eql (.t 162) (.c (.int .i64 1))⟩,⟨some 176,none,.mov (.t 177)⟩])
 (.cond (.t 176) (.seq (.region [⟨some 178,none,.mov (.t 14)⟩,⟨some 179,none,.mov (.t 10)⟩,⟨some 180,none,.call 26 [(.t 178), (.t 179)]⟩,⟨some 181,none,.mov (.t 180)⟩,⟨some 182, some (181, true),.call 15 []⟩,⟨some 183,none,.pick (.t 181) (.t 182) (.c (.bool false))⟩,⟨some 4,none,.mov (.t 183)⟩])
 (.ret))
 (.seq (.region [⟨some 185,none,.bin .eql (.t 162) (.c (.int .i64 2))⟩,⟨some 184,none,.mov (.t 185)⟩])
 (.cond (.t 184) (.seq (.region [⟨some 186,none,.addr (.t 5) 5⟩,⟨some 187,none,.load (.t 186) none⟩,⟨some 188,none,.mov (.t 187)⟩,⟨some 189, some (188, true),.mov (.t 12)⟩,⟨some 190, some (188, true),.len (.t 189)⟩,⟨some 191, some (188, true),.bin .eql (.t 190) (.c (.int .i64 0))⟩,⟨some 192,none,.pick (.t 188) (.t 191) (.c (.bool false))⟩,⟨some 193,none,.mov (.t 192)⟩,⟨some 194, some (193, true),.mov (.t 10)⟩,⟨some 195, some (193, true),.bin .eql (.t 194) (.c (.int .i64 (-1)))⟩,⟨some 196,none,.pick (.t 193) (.t 195) (.c (.bool false))⟩,⟨some 197,none,.mov (.t 196)⟩,⟨some 198, some (197, true),.call 15 []⟩,⟨some 199,none,.pick (.t 197) (.t 198) (.c (.bool false))⟩,⟨some 4,none,.mov (.t 199)⟩])
 (.ret))
 (.seq (.region [⟨some 201,none,.bin .eql (.t 162) (.c (.int .i64 3))⟩,⟨some 200,none,.mov (.t 201)⟩])
 (.cond (.t 200) (.seq (.region [⟨some 202,none,.addr (.t 5) 5⟩,⟨some 203,none,.load (.t 202) none⟩,⟨some 204,none,.mov (.t 203)⟩,⟨some 205, some (204, true),.mov (.t 12)⟩,⟨some 206, some (204, true),.len (.t 205)⟩,⟨some 207, some (204, true),.bin .eql (.t 206) (.c (.int .i64 0))⟩,⟨some 208,none,.pick (.t 204) (.t 207) (.c (.bool false))⟩,⟨some 209,none,.mov (.t 208)⟩,⟨some 210, some (209, true),.addr (.t 7) 1⟩,⟨some 211, some (209, true),.load (.t 210) none⟩,⟨some 212, some (209, true),.mov (.t 10)⟩,⟨some 213, some (209, true),.call 26 [(.t 211), (.t 212)]⟩,⟨some 214,none,.pick (.t 209) (.t 213) (.c (.bool false))⟩,⟨some 215,none,.mov (.t 214)⟩,⟨some 216, some (215, true),.call 15 []⟩,⟨some 217,none,.pick (.t 215) (.t 216) (.c (.bool false))⟩,⟨some 4,none,.mov (.t 217)⟩])
 (.ret))
 (.seq (.region [⟨some 219,none,.bin .eql (.t 162) (.c (.int .i64 4))⟩,⟨some 218,none,.mov (.t 219)⟩])
 (.cond (.t 218) (.seq (.region [⟨some 220,none,.mov (.t 10)⟩,⟨some 221,none,.mov (.t 18)⟩,⟨some 222,none,.bin .eql (.t 220) (.t 221)⟩,⟨some 223,none,.mov (.t 222)⟩,⟨some 224, some (223, true),.call 15 []⟩,⟨some 225,none,.pick (.t 223) (.t 224) (.c (.bool false))⟩,⟨some 4,none,.mov (.t 225)⟩])
 (.ret))
 (.skip)))))))))))))
 (.seq (.region [⟨some 4,none,.mov (.c (.bool false))⟩])
 (.ret))))))))))))))
def r4 : List Res := [.t 4]
def a4 : AFn := ⟨2, c4, r4,.v⟩
def c5 : ACode := .seq (.region [⟨some 3,none,.box (.t 0) 5⟩,⟨some 4,none,.box (.t 1) 5⟩,⟨some 5,none,.box (.t 2) 3⟩,⟨some 6,none,.mov (.c (.bool false))⟩])
 (.seq (.seq (.region [⟨some 24,none,.load (.t 3) (some 5)⟩,⟨some 25,none,.load (.t 5) (some 3)⟩,⟨some 26,none,.call 14 [(.t 24), (.t 25)]⟩,⟨some 27,none,.not (.t 26)⟩,⟨some 28,none,.mov (.t 27)⟩,⟨some 29, some (28, false),.addr (.t 4) 2⟩,⟨some 30, some (28, false),.load (.t 29) none⟩,⟨some 31, some (28, false),.len (.t 30)⟩,⟨some 32, some (28, false),.bin .gtr (.t 31) (.c (.int .i64 50))⟩,⟨some 33,none,.pick (.t 28) (.c (.bool true)) (.t 32)⟩,⟨some 34,none,.mov (.t 33)⟩,⟨some 35, some (34, false),.addr (.t 3) 3⟩,⟨some 36, some (34, false),.load (.t 35) none⟩,⟨some 37, some (34, false),.len (.t 36)⟩,⟨some 38, some (34, false),.bin .geq (.t 37) (.c (.int .i64 20))⟩,⟨some 39,none,.pick (.t 34) (.c (.bool true)) (.t 38)⟩,⟨some 40,none,.mov (.t 39)⟩,⟨some 41, some (40, false),.addr (.t 3) 4⟩,⟨some 42, some (40, false),.load (.t 41) none⟩,⟨some 43, some (40, false),.len (.t 42)⟩,⟨some 44, some (40, false),.bin .geq (.t 43) (.c (.int .i64 20))⟩,⟨some 45,none,.pick (.t 40) (.c (.bool true)) (.t 44)⟩])
 (.cond (.t 45) (.seq (.region [⟨some 46,none,.call 15 []⟩,⟨some 6,none,.mov (.t 46)⟩])
 (.ret))
 (.skip)))
 (.seq (.region [⟨some 47,none,.load (.t 3) (some 5)⟩,⟨some 49,none,.load (.t 3) (some 5)⟩,⟨none,none,.mov (.c .undef)⟩,⟨none,none,.mov (.c .undef)⟩,⟨some 48,none,.call 16 [(.t 47)]⟩,⟨some 50,none,.call 16 [(.t 49)]⟩,⟨some 7,none,.box (.t 48) 5⟩,⟨some 8,none,.box (.t 50) 5⟩])
 (.seq (.region [⟨some 51,none,.addr (.t 7) 3⟩,⟨some 52,none,.load (.t 51) none⟩,⟨some 53,none,.load (.t 4) (some 5)⟩,⟨some 54,none,.lit false 37 5 [(.t 53)]⟩,⟨some 55,none,.app false (.t 52) (.t 54) 37 5 56⟩,⟨some 56,none,.addr (.t 7) 3⟩,⟨none,none,.store (.t 56) (.t 55) 1⟩])
 (.seq (.region [⟨some 57,none,.addr (.t 8) 4⟩,⟨some 58,none,.load (.t 57) none⟩,⟨some 59,none,.addr (.t 4) 0⟩,⟨some 60,none,.load (.t 59) none⟩,⟨some 61,none,.lit false 3 1 [(.t 60)]⟩,⟨some 62,none,.app false (.t 58) (.t 61) 3 1 8⟩,⟨some 63,none,.addr (.t 8) 4⟩,⟨none,none,.store (.t 63) (.t 62) 1⟩])
 (.seq (.seq (.seq (.frz)
 (.region [⟨some 64,none,.load (.t 7) (some 5)⟩,⟨some 65,none,.call 27 [(.t 64)]⟩,⟨some 66,none,.bin .neq (.t 65) (.c (.int .i64 0))⟩,⟨some 67,none,.mov (.t 66)⟩,⟨some 68, some (67, false),.load (.t 8) (some 5)⟩,⟨some 69, some (67, false),.call 27 [(.t 68)]⟩,⟨some 70, some (67, false),.bin .neq (.t 69) (.c (.int .i64 0))⟩,⟨some 71,none,.pick (.t 67) (.c (.bool true)) (.t 70)⟩]))
 (.cond (.t 71) (.seq (.region [⟨some 72,none,.call 15 []⟩,⟨some 6,none,.mov (.t 72)⟩])
 (.ret))
 (.skip)))
 (.seq (.region [⟨some 74,none,.load (.t 3) (some 5)⟩,⟨some 75,none,.addr (.t 5) 0⟩,⟨some 76,none,.load (.t 75) none⟩,⟨some 77,none,.addr (.t 5) 1⟩,⟨some 78,none,.load (.t 77) none⟩,⟨some 79,none,.addr (.t 5) 2⟩,⟨some 80,none,.load (.t 79) none⟩,⟨some 81,none,.call 18 [(.t 74), (.t 76), (.t 78), (.t 80)]⟩,⟨some 73,none,.mov (.t 81)⟩,⟨some 82,none,.ext (.t 73) 0⟩,⟨some 83,none,.ext (.t 73) 1⟩,⟨some 84,none,.ext (.t 73) 2⟩,⟨some 9,none,.mov (.t 82)⟩,⟨some 10,none,.mov (.t 83)⟩,⟨some 11,none,.mov (.t 84)⟩])
 (.seq (.region [⟨some 86,none,.load (.t 7) (some 5)⟩,⟨some 87,none,.addr (.t 5) 0⟩,⟨some 88,none,.load (.t 87) none⟩,⟨some 89,none,.addr (.t 5) 1⟩,⟨some 90,none,.load (.t 89) none⟩,⟨some 91,none,.addr (.t 5) 2⟩,⟨some 92,none,.load (.t 91) none⟩,⟨some 93,none,.call 18 [(.t 86), (.t 88), (.t 90), (.t 92)]⟩,⟨some 85,none,.mov (.t 93)⟩,⟨some 94,none,.ext (.t 85) 0⟩,⟨some 95,none,.ext (.t 85) 1⟩,⟨some 96,none,.ext (.t 85) 2⟩,⟨some 12,none,.mov (.t 94)⟩,⟨some 13,none,.mov (.t 95)⟩,⟨some 14,none,.mov (.t 96)⟩])
 (.seq (.region [⟨some 98,none,.load (.t 8) (some 5)⟩,⟨some 99,none,.addr (.t 5) 0⟩,⟨some 100,none,.load (.t 99) none⟩,⟨some 101,none,.addr (.t 5) 1⟩,⟨some 102,none,.load (.t 101) none⟩,⟨some 103,none,.addr (.t 5) 2⟩,⟨some 104,none,.load (.t 103) none⟩,⟨some 105,none,.call 18 [(.t 98), (.t 100), (.t 102), (.t 104)]⟩,⟨some 97,none,.mov (.t 105)⟩,⟨some 106,none,.ext (.t 97) 0⟩,⟨some 107,none,.ext (.t 97) 1⟩,⟨some 108,none,.ext (.t 97) 2⟩,⟨some 15,none,.mov (.t 106)⟩,⟨some 16,none,.mov (.t 107)⟩,⟨some 17,none,.mov (.t 108)⟩])
 (.seq (.region [⟨some 110,none,.load (.t 3) (some 5)⟩,⟨some 111,none,.addr (.t 5) 0⟩,⟨some 112,none,.load (.t 111) none⟩,⟨some 113,none,.addr (.t 5) 1⟩,⟨some 114,none,.load (.t 113) none⟩,⟨some 115,none,.call 23 [(.t 110), (.t 112), (.t 114)]⟩,⟨some 109,none,.mov (.t 115)⟩,⟨some 116,none,.ext (.t 109) 0⟩,⟨some 117,none,.ext (.t 109) 1⟩,⟨some 18,none,.mov (.t 116)⟩,⟨some 19,none,.mov (.t 117)⟩])
 (.seq (.region [⟨some 119,none,.load (.t 7) (some 5)⟩,⟨some 120,none,.addr (.t 5) 0⟩,⟨some 121,none,.load (.t 120) none⟩,⟨some 122,none,.addr (.t 5) 1⟩,⟨some 123,none,.load (.t 122) none⟩,⟨some 124,none,.call 23 [(.t 119), (.t 121), (.t 123)]⟩,⟨some 118,none,.mov (.t 124)⟩,⟨some 125,none,.ext (.t 118) 0⟩,⟨some 126,none,.ext (.t 118) 1⟩,⟨some 20,none,.mov (.t 125)⟩,⟨some 21,none,.mov (.t 126)⟩])
 (.seq (.region [⟨some 128,none,.load (.t 8) (some 5)⟩,⟨some 129,none,.addr (.t 5) 0⟩,⟨some 130,none,.load (.t 129) none⟩,⟨some 131,none,.addr (.t 5) 1⟩,⟨some 132,none,.load (.t 131) none⟩,⟨some 133,none,.call 23 [(.t 128), (.t 130), (.t 132)]⟩,⟨some 127,none,.mov (.t 133)⟩,⟨some 134,none,.ext (.t 127) 0⟩,⟨some 135,none,.ext (.t 127) 1⟩,⟨some 22,none,.mov (.t 134)⟩,⟨some 23,none,.mov (.t 135)⟩])
 (.seq (.seq (.region [⟨some 136,none,.mov (.t 11)⟩,⟨some 137,none,.bin .neq (.t 136) (.c (.int .i64 0))⟩,⟨some 138,none,.mov (.t 137)⟩,⟨some 139, some (138, false),.mov (.t 14)⟩,⟨some 140, some (138, false),.bin .neq (.t 139) (.c (.int .i64 0))⟩,⟨some 141,none,.pick (.t 138) (.c (.bool true)) (.t 140)⟩,⟨some 142,none,.mov (.t 141)⟩,⟨some 143, some (142, false),.mov (.t 17)⟩,⟨some 144, some (142, false),.bin .neq (.t 143) (.c (.int .i64 0))⟩,⟨some 145,none,.pick (.t 142) (.c (.bool true)) (.t 144)⟩,⟨some 146,none,.mov (.t 145)⟩,⟨some 147, some (146, false),.mov (.t 19)⟩,⟨some 148, some (146, false),.bin .neq (.t 147) (.c (.int .i64 0))⟩,⟨some 149,none,.pick (.t 146) (.c (.bool true)) (.t 148)⟩,⟨some 150,none,.mov (.t 149)⟩,⟨some 151, some (150, false),.mov (.t 21)⟩,⟨some 152, some (150, false),.bin .neq (.t 151) (.c (.int .i64 0))⟩,⟨some 153,none,.pick (.t 150) (.c (.bool true)) (.t 152)⟩,⟨some 154,none,.mov (.t 153)⟩,⟨some 155, some (154, false),.mov (.t 23)⟩,⟨some 156, some (154, false),.bin .neq (.t 155) (.c (.int .i64 0))⟩,⟨some 157,none,.pick (.t 154) (.c (.bool true)) (.t 156)⟩])
 (.cond (.t 157) (.seq (.region [⟨some 6,none,.mov (.c (.bool false))⟩])
 (.ret))
 (.skip)))
 (.seq (.seq (.region [⟨some 158,none,.mov (.t 18)⟩,⟨some 159,none,.addr (.t 5) 2⟩,⟨some 160,none,.load (.t 159) none⟩,⟨some 161,none,.call 25 [(.t 158), (.t 160)]⟩,⟨some 162,none,.mov (.t 161)⟩,⟨some 163, some (162, true),.mov (.t 20)⟩,⟨some 164, some (162, true),.addr (.t 5) 2⟩,⟨some 165, some (162, true),.load (.t 164) none⟩,⟨some 166, some (162, true),.call 25 [(.t 163), (.t 165)]⟩,⟨some 167, some (162, true),.not (.t 166)⟩,⟨some 168,none,.pick (.t 162) (.t 167) (.c (.bool false))⟩,⟨some 169,none,.mov (.t 168)⟩,⟨some 170, some (169, false),.mov (.t 22)⟩,⟨some 171, some (169, false),.addr (.t 5) 2⟩,⟨some 172, some (169, false),.load (.t 171) none⟩,⟨some 173, some (169, false),.call 25 [(.t 170), (.t 172)]⟩,⟨some 174, some (169, false),.mov (.t 173)⟩,⟨some 175, some (174, true),.mov (.t 18)⟩,⟨some 176, some (174, true),.addr (.t 5) 2⟩,⟨some 177, some (174, true),.load (.t 176) none⟩,⟨some 178, some (174, true),.call 25 [(.t 175), (.t 177)]⟩,⟨some 179, some (174, true),.not (.t 178)⟩,⟨some 180, some (169, false),.pick (.t 174) (.t 179) (.c (.bool false))⟩,⟨some 181,none,.pick (.t 169) (.c (.bool true)) (.t 180)⟩])
 (.cond (.t 181) (.seq (.region [⟨some 6,none,.mov (.c (.bool false))⟩])
 (.ret))
 (.skip)))
 (.seq (.region [⟨some 182,none,.mov (.t 9)⟩,⟨some 183,none,.bin .neq (.t 182) (.c (.int .i64 0))⟩,⟨some 184,none,.mov (.t 183)⟩,⟨some 185, some (184, false),.mov (.t 12)⟩,⟨some 186, some (184, false),.bin .eql (.t 185) (.c (.int .i64 0))⟩,⟨some 187,none,.pick (.t 184) (.c (.bool true)) (.t 186)⟩,⟨some 188,none,.mov (.t 187)⟩,⟨some 189, some (188, true),.mov (.t 15)⟩,⟨some 190, some (188, true),.bin .neq (.t 189) (.c (.int .i64 0))⟩,⟨some 191, some (188, true),.mov (.t 190)⟩,⟨some 192, some (191, false),.mov (.t 9)⟩,⟨some 193, some (191, false),.bin .eql (.t 192) (.c (.int .i64 0))⟩,⟨some 194, some (188, true),.pick (.t 191) (.c (.bool true)) (.t 193)⟩,⟨some 195,none,.pick (.t 188) (.t 194) (.c (.bool false))⟩,⟨some 196,none,.mov (.t 195)⟩,⟨some 197, some (196, true),.call 15 []⟩,⟨some 198,none,.pick (.t 196) (.t 197) (.c (.bool false))⟩,⟨some 6,none,.mov (.t 198)⟩])
 (.ret)))))))))))))))
def r5 : List Res := [.t 6]
def a5 : AFn := ⟨3, c5, r5,.v⟩
def c6 : ACode := .seq (.region [⟨some 3,none,.box (.t 0) 5⟩,⟨some 4,none,.box (.t 1) 3⟩,⟨some 6,none,.mov (.c (.bool false))⟩])
 (.seq (.seq (.region [⟨some 15,none,.load (.t 3) (some 5)⟩,⟨some 16,none,.load (.t 4) (some 3)⟩,⟨some 17,none,.call 14 [(.t 15), (.t 16)]⟩,⟨some 18,none,.not (.t 17)⟩])
 (.cond (.t 18) (.seq (.region [⟨some 19,none,.call 15 []⟩,⟨some 6,none,.mov (.t 19)⟩])
 (.ret))
 (.skip)))
 (.seq (.region [⟨some 21,none,.load (.t 3) (some 5)⟩,⟨some 22,none,.addr (.t 4) 0⟩,⟨some 23,none,.load (.t 22) none⟩,⟨some 24,none,.addr (.t 4) 1⟩,⟨some 25,none,.load (.t 24) none⟩,⟨some 26,none,.addr (.t 4) 2⟩,⟨some 27,none,.load (.t 26) none⟩,⟨some 28,none,.call 28 [(.t 21), (.t 23), (.t 25), (.t 27)]⟩,⟨some 20,none,.mov (.t 28)⟩,⟨some 29,none,.ext (.t 20) 0⟩,⟨some 30,none,.ext (.t 20) 1⟩,⟨some 7,none,.mov (.t 29)⟩,⟨some 8,none,.mov (.t 30)⟩])
 (.seq (.seq (.region [⟨some 31,none,.mov (.t 8)⟩,⟨some 32,none,.bin .neq (.t 31) (.c (.int .i64 0))⟩,⟨some 33,none,.mov (.t 32)⟩,⟨some 34, some (33, true),.mov (.t 8)⟩,⟨some 35, some (33, true),.bin .neq (.t 34) (.c (.int .i64 3))⟩,⟨some 36,none,.pick (.t 33) (.t 35) (.c (.bool false))⟩,⟨some 37,none,.mov (.t 36)⟩,⟨some 38, some (37, false),.mov (.t 8)⟩,⟨some 39, some (37, false),.bin .eql (.t 38) (.c (.int .i64 0))⟩,⟨some 40, some (37, false),.mov (.t 39)⟩,⟨some 41, some (40, true),.mov (.t 7)⟩,⟨some 42, some (40, true),.addr (.t 4) 2⟩,⟨some 43, some (40, true),.load (.t 42) none⟩,⟨some 44, some (40, true),.bin .lss (.t 41) (.t 43)⟩,⟨some 45, some (40, true),.mov (.t 44)⟩,⟨some 46, some (45, false),.mov (.t 7)⟩,⟨some 47, some (45, false),.bin .gtr (.t 46) (.c (.int .i64 9999))⟩,⟨some 48, some (40, true),.pick (.t 45) (.c (.bool true)) (.t 47)⟩,⟨some 49, some (37, false),.pick (.t 40) (.t 48) (.c (.bool false))⟩,⟨some 50,none,.pick (.t 37) (.c (.bool true)) (.t 49)⟩])
 (.cond (.t 50) (.seq (.region [⟨some 6,none,.mov (.c (.bool false))⟩])
 (.ret))
 (.skip)))
 (.seq (.seq (.region [⟨some 51,none,.mov (.t 8)⟩,⟨some 52,none,.bin .eql (.t 51) (.c (.int .i64 0))⟩])
 (.cond (.t 52) (.seq (.region [⟨some 54,none,.load (.t 3) (some 5)⟩,⟨some 55,none,.addr (.t 4) 0⟩,⟨some 56,none,.load (.t 55) none⟩,⟨some 57,none,.addr (.t 4) 1⟩,⟨some 58,none,.load (.t 57) none⟩,⟨some 59,none,.mov (.t 7)⟩,⟨some 60,none,.call 18 [(.t 54), (.t 56), (.t 58), (.t 59)]⟩,⟨some 53,none,.mov (.t 60)⟩,⟨some 61,none,.ext (.t 53) 0⟩,⟨some 62,none,.ext (.t 53) 1⟩,⟨some 63,none,.ext (.t 53) 2⟩,⟨some 9,none,.mov (.t 61)⟩,⟨some 10,none,.mov (.t 62)⟩,⟨some 11,none,.mov (.t 63)⟩])
 (.seq (.region [⟨some 64,none,.mov (.t 11)⟩,⟨some 65,none,.bin .neq (.t 64) (.c (.int .i64 0))⟩,⟨some 66,none,.mov (.t 65)⟩,⟨some 67, some (66, false),.mov (.t 9)⟩,⟨some 68, some (66, false),.bin .neq (.t 67) (.c (.int .i64 0))⟩,⟨some 69,none,.pick (.t 66) (.c (.bool true)) (.t 68)⟩])
 (.cond (.t 69) (.seq (.region [⟨some 6,none,.mov (.c (.bool false))⟩])
 (.ret))
 (.skip))))
 (.skip)))
 (.seq (.seq (.region [⟨some 70,none,.mov (.t 2)⟩,⟨some 71,none,.addr (.t 4) 2⟩,⟨some 72,none,.load (.t 71) none⟩,⟨some 73,none,.bin .geq (.t 70) (.t 72)⟩,⟨some 74,none,.mov (.t 73)⟩,⟨some 75, some (74, true),.mov (.t 2)⟩,⟨some 76, some (74, true),.bin .leq (.t 75) (.c (.int .i64 9999))⟩,⟨some 77,none,.pick (.t 74) (.t 76) (.c (.bool false))⟩,⟨some 78,none,.mov (.t 77)⟩,⟨some 79, some (78, true),.mov (.t 8)⟩,⟨some 80, some (78, true),.bin .neq (.t 79) (.c (.int .i64 0))⟩,⟨some 81, some (78, true),.mov (.t 80)⟩,⟨some 82, some (81, false),.mov (.t 2)⟩,⟨some 83, some (81, false),.mov (.t 7)⟩,⟨some 84, some (81, false),.bin .lss (.t 82) (.t 83)⟩,⟨some 85, some (78, true),.pick (.t 81) (.c (.bool true)) (.t 84)⟩,⟨some 86,none,.pick (.t 78) (.t 85) (.c (.bool false))⟩])
 (.cond (.t 86) (.seq (.region [⟨some 88,none,.load (.t 3) (some 5)⟩,⟨some 89,none,.addr (.t 4) 0⟩,⟨some 90,none,.load (.t 89) none⟩,⟨some 91,none,.addr (.t 4) 1⟩,⟨some 92,none,.load (.t 91) none⟩,⟨some 93,none,.mov (.t 2)⟩,⟨some 94,none,.call 18 [(.t 88), (.t 90), (.t 92), (.t 93)]⟩,⟨some 87,none,.mov (.t 94)⟩,⟨some 95,none,.ext (.t 87) 0⟩,⟨some 96,none,.ext (.t 87) 1⟩,⟨some 97,none,.ext (.t 87) 2⟩,⟨some 12,none,.mov (.t 95)⟩,⟨some 13,none,.mov (.t 96)⟩,⟨some 14,none,.mov (.t 97)⟩])
 (.seq (.region [⟨some 98,none,.mov (.t 14)⟩,⟨some 99,none,.bin .eql (.t 98) (.c (.int .i64 0))⟩,⟨some 100,none,.mov (.t 99)⟩,⟨some 101, some (100, true),.mov (.t 12)⟩,⟨some 102, some (100, true),.bin .neq (.t 101) (.c (.int .i64 0))⟩,⟨some 103,none,.pick (.t 100) (.t 102) (.c (.bool false))⟩,⟨some 104,none,.mov (.t 103)⟩,⟨some 105, some (104, true),.call 15 []⟩,⟨some 106,none,.pick (.t 104) (.t 105) (.c (.bool false))⟩,⟨some 6,none,.mov (.t 106)⟩])
 (.ret)))
 (.skip)))
 (.seq (.region [⟨some 107,none,.call 15 []⟩,⟨some 6,none,.mov (.t 107)⟩])
 (.ret)))))))
def r6 : List Res := [.t 6]
def a6 : AFn := ⟨3, c6, r6,.v⟩
def c8 : ACode := .seq (.region [⟨some 2,none,.box (.t 0) 5⟩,⟨some 3,none,.box (.t 1) 3⟩,⟨some 4,none,.mov (.c (.bool false))⟩])
 (.seq (.seq (.region [⟨some 25,none,.load (.t 2) (some 5)⟩,⟨some 26,none,.load (.t 3) (some 3)⟩,⟨some 27,none,.call 14 [(.t 25), (.t 26)]⟩,⟨some 28,none,.not (.t 27)⟩])
 (.cond (.t 28) (.seq (.region [⟨some 29,none,.call 15 []⟩,⟨some 4,none,.mov (.t 29)⟩])
 (.ret))
 (.skip)))
 (.seq (.region [⟨some 31,none,.load (.t 2) (some 5)⟩,⟨some 32,none,.addr (.t 3) 0⟩,⟨some 33,none,.load (.t 32) none⟩,⟨some 34,none,.addr (.t 3) 1⟩,⟨some 35,none,.load (.t 34) none⟩,⟨some 36,none,.call 24 [(.t 31), (.t 33), (.t 35)]⟩,⟨some 30,none,.mov (.t 36)⟩,⟨some 37,none,.ext (.t 30) 0⟩,⟨some 38,none,.ext (.t 30) 1⟩,⟨some 5,none,.mov (.t 37)⟩,⟨some 6,none,.mov (.t 38)⟩])
 (.seq (.seq (.region [⟨some 39,none,.mov (.t 6)⟩,⟨some 40,none,.bin .neq (.t 39) (.c (.int .i64 0))⟩,⟨some 41,none,.mov (.t 40)⟩,⟨some 42, some (41, false),.mov (.t 5)⟩,⟨some 43, some (41, false),.len (.t 42)⟩,⟨some 44, some (41, false),.bin .gtr (.t 43) (.c (.int .i64 12))⟩,⟨some 45,none,.pick (.t 41) (.c (.bool true)) (.t 44)⟩])
 (.cond (.t 45) (.seq (.region [⟨some 4,none,.mov (.c (.bool false))⟩])
 (.ret))
 (.skip)))
 (.seq (.region [⟨some 46,none,.load (.t 2) (some 5)⟩,⟨some 47,none,.call 16 [(.t 46)]⟩,⟨some 7,none,.new (.agg [(.sl [] .tight), (.sl [] .tight), (.sl [] .tight), (.sl [] .tight), (.sl [] .tight)]) 5⟩,⟨none,none,.store (.t 7) (.t 47) 5⟩])
 (.seq (.seq (.region [⟨some 8,none,.mov (.c (.int .i64 0))⟩])
 (.block 0 (.loop (.seq (.seq (.region [⟨some 48,none,.mov (.t 8)⟩,⟨some 49,none,.addr (.t 7) 2⟩,⟨some 50,none,.load (.t 49) none⟩,⟨some 51,none,.len (.t 50)⟩,⟨some 52,none,.bin .lss (.t 48) (.t 51)⟩])
 (.cond (.t 52) (.skip)
 (.exit 0)))
 (.seq (.block 1 (.seq (.seq (.region [⟨some 55,none,.addr (.t 7) 2⟩,⟨some 56,none,.load (.t 55) none⟩,⟨some 57,none,.mov (.t 8)⟩,⟨some 58,none,.idx (.t 56) (.t 57) 3⟩,⟨some 59,none,.addr (.t 58) 0⟩,⟨some 60,none,.load (.t 59) none⟩,⟨some 61,none,.addr (.t 3) 1⟩,⟨some 62,none,.load (.t 61) none⟩,⟨some 63,none,.bin .neq (.t 60) (.t 62)⟩])
 (.cond (.t 63) (.exit 1)
 (.skip)))
 (.seq (.region [⟨some 9,none,.mov (.c (.sl [] .tight))⟩])
 (.seq (.seq (.region [⟨some 10,none,.mov (.c (.int .i64 0))⟩])
 (.block 2 (.loop (.seq (.seq (.region [⟨some 64,none,.mov (.t 10)⟩,⟨some 65,none,.addr (.t 7) 2⟩,⟨some 66,none,.load (.t 65) none⟩,⟨some 67,none,.mov (.t 8)⟩,⟨some 68,none,.idx (.t 66) (.t 67) 3⟩,⟨some 69,none,.addr (.t 68) 2⟩,⟨some 70,none,.load (.t 69) none⟩,⟨some 71,none,.len (.t 70)⟩,⟨some 72,none,.bin .lss (.t 64) (.t 71)⟩])
 (.cond (.t 72) (.skip)
 (.exit 2)))
 (.seq (.block 3 (.seq (.region [⟨some 75,none,.mov (.t 5)⟩,⟨some 76,none,.addr (.t 7) 2⟩,⟨some 77,none,.load (.t 76) none⟩,⟨some 78,none,.mov (.t 8)⟩,⟨some 79,none,.idx (.t 77) (.t 78) 3⟩,⟨some 80,none,.addr (.t 79) 2⟩,⟨some 81,none,.load (.t 80) none⟩,⟨some 82,none,.mov (.t 10)⟩,⟨some 83,none,.idx (.t 81) (.t 82) 2⟩,⟨some 84,none,.addr (.t 83) 0⟩,⟨some 85,none,.load (.t 84) none⟩,⟨some 86,none,.call 26 [(.t 75), (.t 85)]⟩,⟨some 87,none,.not (.t 86)⟩])
 (.cond (.t 87) (.region [⟨some 88,none,.mov (.t 9)⟩,⟨some 89,none,.addr (.t 7) 2⟩,⟨some 90,none,.load (.t 89) none⟩,⟨some 91,none,.mov (.t 8)⟩,⟨some 92,none,.idx (.t 90) (.t 91) 3⟩,⟨some 93,none,.addr (.t 92) 2⟩,⟨some 94,none,.load (.t 93) none⟩,⟨some 95,none,.mov (.t 10)⟩,⟨some 96,none,.idx (.t 94) (.t 95) 2⟩,⟨some 97,none,.load (.t 96) (some 2)⟩,⟨some 98,none,.lit false 72 2 [(.t 97)]⟩,⟨some 99,none,.app false (.t 88) (.t 98) 72 2 16⟩,⟨some 9,none,.mov (.t 99)⟩])
 (.skip))))
 (.region [⟨some 73,none,.mov (.t 10)⟩,⟨some 74,none,.bin .add (.t 73) (.c (.int .i64 1))⟩,⟨some 10,none,.mov (.t 74)⟩]))))))
 (.seq (.seq (.region [⟨some 11,none,.mov (.c (.int .i64 0))⟩])
 (.block 4 (.loop (.seq (.seq (.region [⟨some 100,none,.mov (.t 11)⟩,⟨some 101,none,.addr (.t 2) 0⟩,⟨some 102,none,.load (.t 101) none⟩,⟨some 103,none,.len (.t 102)⟩,⟨some 104,none,.bin .lss (.t 100) (.t 103)⟩])
 (.cond (.t 104) (.skip)
 (.exit 4)))
 (.seq (.block 5 (.seq (.region [⟨some 107,none,.mov (.t 5)⟩,⟨some 108,none,.addr (.t 2) 0⟩,⟨some 109,none,.load (.t 108) none⟩,⟨some 110,none,.mov (.t 11)⟩,⟨some 111,none,.idx (.t 109) (.t 110) 2⟩,⟨some 112,none,.addr (.t 111) 0⟩,⟨some 113,none,.load (.t 112) none⟩,⟨some 114,none,.call 26 [(.t 107), (.t 113)]⟩])
 (.cond (.t 114) (.region [⟨some 115,none,.mov (.t 9)⟩,⟨some 116,none,.addr (.t 2) 0⟩,⟨some 117,none,.load (.t 116) none⟩,⟨some 118,none,.mov (.t 11)⟩,⟨some 119,none,.idx (.t 117) (.t 118) 2⟩,⟨some 120,none,.load (.t 119) (some 2)⟩,⟨some 121,none,.lit false 72 2 [(.t 120)]⟩,⟨some 122,none,.app false (.t 115) (.t 121) 72 2 16⟩,⟨some 9,none,.mov (.t 122)⟩])
 (.skip))))
 (.region [⟨some 105,none,.mov (.t 11)⟩,⟨some 106,none,.bin .add (.t 105) (.c (.int .i64 1))⟩,⟨some 11,none,.mov (.t 106)⟩]))))))
 (.region [⟨some 123,none,.addr (.t 7) 2⟩,⟨some 124,none,.load (.t 123) none⟩,⟨some 125,none,.mov (.t 8)⟩,⟨some 126,none,.mov (.t 9)⟩,⟨some 127,none,.idx (.t 124) (.t 125) 3⟩,⟨some 128,none,.addr (.t 127) 2⟩,⟨none,none,.store (.t 128) (.t 126) 1⟩]))))))
 (.region [⟨some 53,none,.mov (.t 8)⟩,⟨some 54,none,.bin .add (.t 53) (.c (.int .i64 1))⟩,⟨some 8,none,.mov (.t 54)⟩]))))))
 (.seq (.seq (.seq (.frz)
 (.region [⟨some 129,none,.load (.t 7) (some 5)⟩,⟨some 130,none,.call 27 [(.t 129)]⟩,⟨some 131,none,.bin .neq (.t 130) (.c (.int .i64 0))⟩]))
 (.cond (.t 131) (.seq (.region [⟨some 132,none,.call 15 []⟩,⟨some 4,none,.mov (.t 132)⟩])
 (.ret))
 (.skip)))
 (.seq (.region [⟨some 134,none,.load (.t 7) (some 5)⟩,⟨some 135,none,.addr (.t 3) 0⟩,⟨some 136,none,.load (.t 135) none⟩,⟨some 137,none,.addr (.t 3) 1⟩,⟨some 138,none,.load (.t 137) none⟩,⟨some 139,none,.call 24 [(.t 134), (.t 136), (.t 138)]⟩,⟨some 133,none,.mov (.t 139)⟩,⟨some 140,none,.ext (.t 133) 0⟩,⟨some 141,none,.ext (.t 133) 1⟩,⟨some 12,none,.mov (.t 140)⟩,⟨some 13,none,.mov (.t 141)⟩])
 (.seq (.region [⟨some 143,none,.load (.t 2) (some 5)⟩,⟨some 144,none,.addr (.t 3) 0⟩,⟨some 145,none,.load (.t 144) none⟩,⟨some 146,none,.addr (.t 3) 1⟩,⟨some 147,none,.load (.t 146) none⟩,⟨some 148,none,.call 23 [(.t 143), (.t 145), (.t 147)]⟩,⟨some 142,none,.mov (.t 148)⟩,⟨some 149,none,.ext (.t 142) 0⟩,⟨some 150,none,.ext (.t 142) 1⟩,⟨some 14,none,.mov (.t 149)⟩,⟨some 15,none,.mov (.t 150)⟩])
 (.seq (.region [⟨some 152,none,.load (.t 7) (some 5)⟩,⟨some 153,none,.addr (.t 3) 0⟩,⟨some 154,none,.load (.t 153) none⟩,⟨some 155,none,.addr (.t 3) 1⟩,⟨some 156,none,.load (.t 155) none⟩,⟨some 157,none,.call 23 [(.t 152), (.t 154), (.t 156)]⟩,⟨some 151,none,.mov (.t 157)⟩,⟨some 158,none,.ext (.t 151) 0⟩,⟨some 159,none,.ext (.t 151) 1⟩,⟨some 16,none,.mov (.t 158)⟩,⟨some 17,none,.mov (.t 159)⟩])
 (.seq (.seq (.region [⟨some 160,none,.mov (.t 13)⟩,⟨some 161,none,.bin .neq (.t 160) (.c (.int .i64 0))⟩,⟨some 162,none,.mov (.t 161)⟩,⟨some 163, some (162, false),.mov (.t 12)⟩,⟨some 164, some (162, false),.len (.t 163)⟩,⟨some 165, some (162, false),.bin .gtr (.t 164) (.c (.int .i64 0))⟩,⟨some 166,none,.pick (.t 162) (.c (.bool true)) (.t 165)⟩,⟨some 167,none,.mov (.t 166)⟩,⟨some 168, some (167, false),.mov (.t 15)⟩,⟨some 169, some (167, false),.bin .neq (.t 168) (.c (.int .i64 0))⟩,⟨some 170,none,.pick (.t 167) (.c (.bool true)) (.t 169)⟩,⟨some 171,none,.mov (.t 170)⟩,⟨some 172, some (171, false),.mov (.t 17)⟩,⟨some 173, some (171, false),.bin .neq (.t 172) (.c (.int .i64 0))⟩,⟨some 174,none,.pick (.t 171) (.c (.bool true)) (.t 173)⟩,⟨some 175,none,.mov (.t 174)⟩,⟨some 176, some (175, false),.mov (.t 14)⟩,⟨some 177, some (175, false),.len (.t 176)⟩,⟨some 178, some (175, false),.mov (.t 16)⟩,⟨some 179, some (175, false),.len (.t 178)⟩,⟨some 180, some (175, false),.bin .neq (.t 177) (.t 179)⟩,⟨some 181,none,.pick (.t 175) (.c (.bool true)) (.t 180)⟩])
 (.cond (.t 181) (.seq (.region [⟨some 4,none,.mov (.c (.bool false))⟩])
 (.ret))
 (.skip)))
 (.seq (.seq (.region [⟨some 18,none,.mov (.c (.int .i64 0))⟩])
 (.block 6 (.loop (.seq (.seq (.region [⟨some 182,none,.mov (.t 18)⟩,⟨some 183,none,.mov (.t 14)⟩,⟨some 184,none,.len (.t 183)⟩,⟨some 185,none,.bin .lss (.t 182) (.t 184)⟩])
 (.cond (.t 185) (.skip)
 (.exit 6)))
 (.seq (.block 7 (.seq (.region [⟨some 188,none,.mov (.t 14)⟩,⟨some 189,none,.mov (.t 18)⟩,⟨some 190,none,.idx (.t 188) (.t 189) 2⟩,⟨some 191,none,.load (.t 190) (some 2)⟩,⟨some 192,none,.mov (.t 16)⟩,⟨some 193,none,.mov (.t 18)⟩,⟨some 194,none,.idx (.t 192) (.t 193) 2⟩,⟨some 195,none,.load (.t 194) (some 2)⟩,⟨some 196,none,.eqv true true [.i,.i] (.t 191) (.t 195)⟩])
 (.cond (.t 196) (.seq (.region [⟨some 4,none,.mov (.c (.bool false))⟩])
 (.ret))
 (.skip))))
 (.region [⟨some 186,none,.mov (.t 18)⟩,⟨some 187,none,.bin .add (.t 186) (.c (.int .i64 1))⟩,⟨some 18,none,.mov (.t 187)⟩]))))))
 (.seq (.region [⟨some 198,none,.load (.t 2) (some 5)⟩,⟨some 199,none,.addr (.t 3) 0⟩,⟨some 200,none,.load (.t 199) none⟩,⟨some 201,none,.addr (.t 3) 1⟩,⟨some 202,none,.load (.t 201) none⟩,⟨some 203,none,.addr (.t 3) 2⟩,⟨some 204,none,.load (.t 203) none⟩,⟨some 205,none,.call 18 [(.t 198), (.t 200), (.t 202), (.t 204)]⟩,⟨some 197,none,.mov (.t 205)⟩,⟨some 206,none,.ext (.t 197) 0⟩,⟨some 207,none,.ext (.t 197) 1⟩,⟨some 208,none,.ext (.t 197) 2⟩,⟨some 19,none,.mov (.t 206)⟩,⟨some 20,none,.mov (.t 207)⟩,⟨some 21,none,.mov (.t 208)⟩])
 (.seq (.region [⟨some 210,none,.load (.t 7) (some 5)⟩,⟨some 211,none,.addr (.t 3) 0⟩,⟨some 212,none,.load (.t 211) none⟩,⟨some 213,none,.addr (.t 3) 1⟩,⟨some 214,none,.load (.t 213) none⟩,⟨some 215,none,.addr (.t 3) 2⟩,⟨some 216,none,.load (.t 215) none⟩,⟨some 217,none,.call 18 [(.t 210), (.t 212), (.t 214), (.t 216)]⟩,⟨some 209,none,.mov (.t 217)⟩,⟨some 218,none,.ext (.t 209) 0⟩,⟨some 219,none,.ext (.t 209) 1⟩,⟨some 220,none,.ext (.t 209) 2⟩,⟨some 22,none,.mov (.t 218)⟩,⟨some 23,none,.mov (.t 219)⟩,⟨some 24,none,.mov (.t 220)⟩])
 (.seq (.region [⟨some 221,none,.mov (.t 21)⟩,⟨some 222,none,.bin .eql (.t 221) (.c (.int .i64 0))⟩,⟨some 223,none,.mov (.t 222)⟩,⟨some 224, some (223, true),.mov (.t 24)⟩,⟨some 225, some (223, true),.bin .eql (.t 224) (.c (.int .i64 0))⟩,⟨some 226,none,.pick (.t 223) (.t 225) (.c (.bool false))⟩,⟨some 227,none,.mov (.t 226)⟩,⟨some 228, some (227, true),.mov (.t 19)⟩,⟨some 229, some (227, true),.bin .neq (.t 228) (.c (.int .i64 0))⟩,⟨some 230, some (227, true),.mov (.t 229)⟩,⟨some 231, some (230, false),.mov (.t 22)⟩,⟨some 232, some (230, false),.bin .eql (.t 231) (.c (.int .i64 0))⟩,⟨some 233, some (227, true),.pick (.t 230) (.c (.bool true)) (.t 232)⟩,⟨some 234,none,.pick (.t 227) (.t 233) (.c (.bool false))⟩,⟨some 235,none,.mov (.t 234)⟩,⟨some 236, some (235, true),.mov (.t 22)⟩,⟨some 237, some (235, true),.bin .neq (.t 236) (.c (.int .i64 1))⟩,⟨some 238,none,.pick (.t 235) (.t 237) (.c (.bool false))⟩,⟨some 239,none,.mov (.t 238)⟩,⟨some 240, some (239, true),.call 15 []⟩,⟨some 241,none,.pick (.t 239) (.t 240) (.c (.bool false))⟩,⟨some 4,none,.mov (.t 241)⟩])
 (.ret)))))))))))))))
def r8 : List Res := [.t 4]
def a8 : AFn := ⟨2, c8, r8,.v⟩
def c9 : ACode := .seq (.region [⟨some 3,none,.box (.t 0) 5⟩,⟨some 5,none,.box (.t 2) 3⟩,⟨some 6,none,.mov (.c (.bool false))⟩])
 (.seq (.seq (.region [⟨some 18,none,.load (.t 3) (some 5)⟩,⟨some 19,none,.load (.t 5) (some 3)⟩,⟨some 20,none,.call 14 [(.t 18), (.t 19)]⟩,⟨some 21,none,.not (.t 20)⟩])
 (.cond (.t 21) (.seq (.region [⟨some 22,none,.call 15 []⟩,⟨some 6,none,.mov (.t 22)⟩])
 (.ret))
 (.skip)))
 (.seq (.region [⟨some 24,none,.load (.t 3) (some 5)⟩,⟨some 25,none,.addr (.t 5) 0⟩,⟨some 26,none,.load (.t 25) none⟩,⟨some 27,none,.call 21 [(.t 24), (.t 26)]⟩,⟨some 23,none,.mov (.t 27)⟩,⟨some 28,none,.ext (.t 23) 0⟩,⟨some 29,none,.ext (.t 23) 1⟩,⟨some 7,none,.new (.agg [(.int .i64 0), (.int .i64 0), (.int .i64 0), (.int .i64 0), (.int .i64 0), (.bool false), (.sl [] .tight)]) 7⟩,⟨none,none,.store (.t 7) (.t 28) 7⟩,⟨some 8,none,.mov (.t 29)⟩])
 (.seq (.region [⟨some 31,none,.load (.t 3) (some 5)⟩,⟨some 32,none,.addr (.t 5) 0⟩,⟨some 33,none,.load (.t 32) none⟩,⟨some 34,none,.addr (.t 5) 1⟩,⟨some 35,none,.load (.t 34) none⟩,⟨some 36,none,.call 23 [(.t 31), (.t 33), (.t 35)]⟩,⟨some 30,none,.mov (.t 36)⟩,⟨some 37,none,.ext (.t 30) 0⟩,⟨some 38,none,.ext (.t 30) 1⟩,⟨some 9,none,.mov (.t 37)⟩,⟨some 10,none,.mov (.t 38)⟩])
 (.seq (.seq (.region [⟨some 39,none,.mov (.t 10)⟩,⟨some 40,none,.bin .neq (.t 39) (.c (.int .i64 0))⟩,⟨some 41,none,.mov (.t 40)⟩,⟨some 42, some (41, false),.addr (.t 7) 5⟩,⟨some 43, some (41, false),.load (.t 42) none⟩,⟨some 44, some (41, false),.not (.t 43)⟩,⟨some 45, some (41, false),.mov (.t 44)⟩,⟨some 46, some (45, true),.mov (.t 9)⟩,⟨some 47, some (45, true),.len (.t 46)⟩,⟨some 48, some (45, true),.bin .neq (.t 47) (.c (.int .i64 1))⟩,⟨some 49, some (45, true),.mov (.t 48)⟩,⟨some 50, some (49, false),.mov (.t 9)⟩,⟨some 51, some (49, false),.idx (.t 50) (.c (.int .i64 0)) 2⟩,⟨some 52, some (49, false),.load (.t 51) (some 2)⟩,⟨some 53, some (49, false),.build [(.int .i64 0), (.int .i64 0)] [(1, 1, (.c (.int .i64 9999)))]⟩,⟨some 54, some (49, false),.eqv true true [.i,.i] (.t 52) (.t 53)⟩,⟨some 55, some (45, true),.pick (.t 49) (.c (.bool true)) (.t 54)⟩,⟨some 56, some (41, false),.pick (.t 45) (.t 55) (.c (.bool false))⟩,⟨some 57,none,.pick (.t 41) (.c (.bool true)) (.t 56)⟩])
 (.cond (.t 57) (.seq (.region [⟨some 6,none,.mov (.c (.bool false))⟩])
 (.ret))
 (.skip)))
 (.seq (.region [⟨some 58,none,.load (.t 3) (some 5)⟩,⟨some 59,none,.call 16 [(.t 58)]⟩,⟨some 11,none,.new (.agg [(.sl [] .tight), (.sl [] .tight), (.sl [] .tight), (.sl [] .tight), (.sl [] .tight)]) 5⟩,⟨none,none,.store (.t 11) (.t 59) 5⟩])
 (.seq (.seq (.region [⟨some 12,none,.mov (.c (.int .i64 0))⟩])
 (.block 0 (.loop (.seq (.seq (.region [⟨some 60,none,.mov (.t 12)⟩,⟨some 61,none,.addr (.t 11) 2⟩,⟨some 62,none,.load (.t 61) none⟩,⟨some 63,none,.len (.t 62)⟩,⟨some 64,none,.bin .lss (.t 60) (.t 63)⟩])
 (.cond (.t 64) (.skip)
 (.exit 0)))
 (.seq (.block 1 (.seq (.seq (.region [⟨some 67,none,.addr (.t 11) 2⟩,⟨some 68,none,.load (.t 67) none⟩,⟨some 69,none,.mov (.t 12)⟩,⟨some 70,none,.idx (.t 68) (.t 69) 3⟩,⟨some 71,none,.addr (.t 70) 0⟩,⟨some 72,none,.load (.t 71) none⟩,⟨some 73,none,.addr (.t 5) 1⟩,⟨some 74,none,.load (.t 73) none⟩,⟨some 75,none,.bin .neq (.t 72) (.t 74)⟩])
 (.cond (.t 75) (.exit 1)
 (.skip)))
 (.seq (.region [⟨some 13,none,.mov (.c (.sl [] .tight))⟩])
 (.seq (.seq (.region [⟨some 14,none,.mov (.c (.int .i64 0))⟩])
 (.block 2 (.loop (.seq (.seq (.region [⟨some 76,none,.mov (.t 14)⟩,⟨some 77,none,.addr (.t 11) 2⟩,⟨some 78,none,.load (.t 77) none⟩,⟨some 79,none,.mov (.t 12)⟩,⟨some 80,none,.idx (.t 78) (.t 79) 3⟩,⟨some 81,none,.addr (.t 80) 1⟩,⟨some 82,none,.load (.t 81) none⟩,⟨some 83,none,.len (.t 82)⟩,⟨some 84,none,.bin .lss (.t 76) (.t 83)⟩])
 (.cond (.t 84) (.skip)
 (.exit 2)))
 (.seq (.block 3 (.seq (.region [⟨some 87,none,.addr (.t 11) 2⟩,⟨some 88,none,.load (.t 87) none⟩,⟨some 89,none,.mov (.t 12)⟩,⟨some 90,none,.idx (.t 88) (.t 89) 3⟩,⟨some 91,none,.addr (.t 90) 1⟩,⟨some 92,none,.load (.t 91) none⟩,⟨some 93,none,.mov (.t 14)⟩,⟨some 94,none,.idx (.t 92) (.t 93) 1⟩,⟨some 95,none,.load (.t 94) none⟩,⟨some 15,none,.mov (.t 95)⟩])
 (.seq (.seq (.region [⟨some 96,none,.mov (.t 1)⟩,⟨some 97,none,.mov (.t 15)⟩,⟨some 98,none,.bin .lss (.t 96) (.t 97)⟩,⟨some 99,none,.mov (.t 98)⟩,⟨some 100, some (99, true),.mov (.t 14)⟩,⟨some 101, some (99, true),.bin .eql (.t 100) (.c (.int .i64 0))⟩,⟨some 102, some (99, true),.mov (.t 101)⟩,⟨some 103, some (102, false),.addr (.t 11) 2⟩,⟨some 104, some (102, false),.load (.t 103) none⟩,⟨some 105, some (102, false),.mov (.t 12)⟩,⟨some 106, some (102, false),.idx (.t 104) (.t 105) 3⟩,⟨some 107, some (102, false),.addr (.t 106) 1⟩,⟨some 108, some (102, false),.load (.t 107) none⟩,⟨some 109, some (102, false),.mov (.t 14)⟩,⟨some 110, some (102, false),.bin .sub (.t 109) (.c (.int .i64 1))⟩,⟨some 111, some (102, false),.idx (.t 108) (.t 110) 1⟩,⟨some 112, some (102, false),.load (.t 111) none⟩,⟨some 113, some (102, false),.mov (.t 1)⟩,⟨some 114, some (102, false),.bin .lss (.t 112) (.t 113)⟩,⟨some 115, some (99, true),.pick (.t 102) (.c (.bool true)) (.t 114)⟩,⟨some 116,none,.pick (.t 99) (.t 115) (.c (.bool false))⟩])
 (.cond (.t 116) (.region [⟨some 117,none,.mov (.t 13)⟩,⟨some 118,none,.mov (.t 1)⟩,⟨some 119,none,.lit false 3 1 [(.t 118)]⟩,⟨some 120,none,.app false (.t 117) (.t 119) 3 1 8⟩,⟨some 13,none,.mov (.t 120)⟩])
 (.skip)))
 (.region [⟨some 121,none,.mov (.t 13)⟩,⟨some 122,none,.mov (.t 15)⟩,⟨some 123,none,.lit false 3 1 [(.t 122)]⟩,⟨some 124,none,.app false (.t 121) (.t 123) 3 1 8⟩,⟨some 13,none,.mov (.t 124)⟩]))))
 (.region [⟨some 85,none,.mov (.t 14)⟩,⟨some 86,none,.bin .add (.t 85) (.c (.int .i64 1))⟩,⟨some 14,none,.mov (.t 86)⟩]))))))
 (.seq (.seq (.region [⟨some 125,none,.mov (.t 1)⟩,⟨some 126,none,.mov (.t 13)⟩,⟨some 127,none,.mov (.t 13)⟩,⟨some 128,none,.len (.t 127)⟩,⟨some 129,none,.bin .sub (.t 128) (.c (.int .i64 1))⟩,⟨some 130,none,.idx (.t 126) (.t 129) 1⟩,⟨some 131,none,.load (.t 130) none⟩,⟨some 132,none,.bin .gtr (.t 125) (.t 131)⟩])
 (.cond (.t 132) (.region [⟨some 133,none,.mov (.t 13)⟩,⟨some 134,none,.mov (.t 1)⟩,⟨some 135,none,.lit false 3 1 [(.t 134)]⟩,⟨some 136,none,.app false (.t 133) (.t 135) 3 1 8⟩,⟨some 13,none,.mov (.t 136)⟩])
 (.skip)))
 (.region [⟨some 137,none,.addr (.t 11) 2⟩,⟨some 138,none,.load (.t 137) none⟩,⟨some 139,none,.mov (.t 12)⟩,⟨some 140,none,.mov (.t 13)⟩,⟨some 141,none,.idx (.t 138) (.t 139) 3⟩,⟨some 142,none,.addr (.t 141) 1⟩,⟨none,none,.store (.t 142) (.t 140) 1⟩]))))))
 (.region [⟨some 65,none,.mov (.t 12)⟩,⟨some 66,none,.bin .add (.t 65) (.c (.int .i64 1))⟩,⟨some 12,none,.mov (.t 66)⟩]))))))
 (.seq (.seq (.seq (.frz)
 (.region [⟨some 143,none,.load (.t 11) (some 5)⟩,⟨some 144,none,.call 27 [(.t 143)]⟩,⟨some 145,none,.bin .neq (.t 144) (.c (.int .i64 0))⟩]))
 (.cond (.t 145) (.seq (.region [⟨some 146,none,.call 15 []⟩,⟨some 6,none,.mov (.t 146)⟩])
 (.ret))
 (.skip)))
 (.seq (.region [⟨some 148,none,.load (.t 11) (some 5)⟩,⟨some 149,none,.addr (.t 5) 0⟩,⟨some 150,none,.load (.t 149) none⟩,⟨some 151,none,.addr (.t 5) 1⟩,⟨some 152,none,.load (.t 151) none⟩,⟨some 153,none,.call 23 [(.t 148), (.t 150), (.t 152)]⟩,⟨some 147,none,.mov (.t 153)⟩,⟨some 154,none,.ext (.t 147) 0⟩,⟨some 155,none,.ext (.t 147) 1⟩,⟨some 16,none,.mov (.t 154)⟩,⟨some 17,none,.mov (.t 155)⟩])
 (.seq (.region [⟨some 156,none,.mov (.t 17)⟩,⟨some 157,none,.bin .eql (.t 156) (.c (.int .i64 0))⟩,⟨some 158,none,.mov (.t 157)⟩,⟨some 159, some (158, true),.mov (.t 16)⟩,⟨some 160, some (158, true),.addr (.t 5) 2⟩,⟨some 161, some (158, true),.load (.t 160) none⟩,⟨some 162, some (158, true),.call 25 [(.t 159), (.t 161)]⟩,⟨some 163, some (158, true),.not (.t 162)⟩,⟨some 164, some (158, true),.mov (.t 163)⟩,⟨some 165, some (164, false),.mov (.t 9)⟩,⟨some 166, some (164, false),.addr (.t 5) 2⟩,⟨some 167, some (164, false),.load (.t 166) none⟩,⟨some 168, some (164, false),.call 25 [(.t 165), (.t 167)]⟩,⟨some 169, some (158, true),.pick (.t 164) (.c (.bool true)) (.t 168)⟩,⟨some 170,none,.pick (.t 158) (.t 169) (.c (.bool false))⟩,⟨some 171,none,.mov (.t 170)⟩,⟨some 172, some (171, true),.call 15 []⟩,⟨some 173,none,.pick (.t 171) (.t 172) (.c (.bool false))⟩,⟨some 6,none,.mov (.t 173)⟩])
 (.ret))))))))))
def r9 : List Res := [.t 6]
def a9 : AFn := ⟨3, c9, r9,.v⟩
def c14 : ACode := .seq (.region [⟨some 2,none,.box (.t 0) 5⟩,⟨some 3,none,.box (.t 1) 3⟩,⟨some 4,none,.mov (.c (.bool false))⟩])
 (.seq (.seq (.region [⟨some 9,none,.load (.t 2) (some 5)⟩,⟨some 10,none,.call 31 [(.t 9)]⟩,⟨some 11,none,.mov (.t 10)⟩,⟨some 12, some (11, false),.load (.t 2) (some 5)⟩,⟨some 13, some (11, false),.call 27 [(.t 12)]⟩,⟨some 14, some (11, false),.bin .neq (.t 13) (.c (.int .i64 0))⟩,⟨some 15,none,.pick (.t 11) (.c (.bool true)) (.t 14)⟩,⟨some 16,none,.mov (.t 15)⟩,⟨some 17, some (16, false),.addr (.t 3) 2⟩,⟨some 18, some (16, false),.load (.t 17) none⟩,⟨some 19, some (16, false),.bin .lss (.t 18) (.c (.int .i64 0))⟩,⟨some 20,none,.pick (.t 16) (.c (.bool true)) (.t 19)⟩,⟨some 21,none,.mov (.t 20)⟩,⟨some 22, some (21, false),.addr (.t 3) 2⟩,⟨some 23, some (21, false),.load (.t 22) none⟩,⟨some 24, some (21, false),.bin .gtr (.t 23) (.c (.int .i64 9999))⟩,⟨some 25,none,.pick (.t 21) (.c (.bool true)) (.t 24)⟩])
 (.cond (.t 25) (.seq (.region [⟨some 4,none,.mov (.c (.bool false))⟩])
 (.ret))
 (.skip)))
 (.seq (.region [⟨some 27,none,.load (.t 2) (some 5)⟩,⟨some 28,none,.addr (.t 3) 0⟩,⟨some 29,none,.load (.t 28) none⟩,⟨some 30,none,.call 21 [(.t 27), (.t 29)]⟩,⟨some 26,none,.mov (.t 30)⟩,⟨some 31,none,.ext (.t 26) 0⟩,⟨some 32,none,.ext (.t 26) 1⟩,⟨some 5,none,.new (.agg [(.int .i64 0), (.int .i64 0), (.int .i64 0), (.int .i64 0), (.int .i64 0), (.bool false), (.sl [] .tight)]) 7⟩,⟨none,none,.store (.t 5) (.t 31) 7⟩,⟨some 6,none,.mov (.t 32)⟩])
 (.seq (.region [⟨some 34,none,.load (.t 2) (some 5)⟩,⟨some 35,none,.addr (.t 3) 1⟩,⟨some 36,none,.load (.t 35) none⟩,⟨some 37,none,.call 22 [(.t 34), (.t 36)]⟩,⟨some 33,none,.mov (.t 37)⟩,⟨some 38,none,.ext (.t 33) 0⟩,⟨some 39,none,.ext (.t 33) 1⟩,⟨some 7,none,.new (.agg [(.int .i64 0), (.sl [] .tight), (.sl [] .tight)]) 3⟩,⟨none,none,.store (.t 7) (.t 38) 3⟩,⟨some 8,none,.mov (.t 39)⟩])
 (.seq (.region [⟨some 40,none,.mov (.t 6)⟩,⟨some 41,none,.mov (.t 40)⟩,⟨some 42, some (41, true),.mov (.t 8)⟩,⟨some 43,none,.pick (.t 41) (.t 42) (.c (.bool false))⟩,⟨some 4,none,.mov (.t 43)⟩])
 (.ret)))))
def r14 : List Res := [.t 4]
def a14 : AFn := ⟨2, c14, r14,.v⟩
def c15 : ACode := .seq (.region [⟨some 0,none,.mov (.c (.bool false))⟩])
 (.seq (.region [⟨some 9,none,.call 42 []⟩,⟨some 1,none,.new (.agg [(.sl [] .tight), (.sl [] .tight), (.sl [] .tight), (.sl [] .tight), (.sl [] .tight)]) 5⟩,⟨none,none,.store (.t 1) (.t 9) 5⟩])
 (.seq (.region [⟨some 11,none,.load (.t 1) (some 5)⟩,⟨some 12,none,.call 18 [(.t 11), (.c (.int .i64 7)), (.c (.int .i64 1)), (.c (.int .i64 302))]⟩,⟨some 10,none,.mov (.t 12)⟩,⟨some 13,none,.ext (.t 10) 0⟩,⟨some 14,none,.ext (.t 10) 1⟩,⟨some 15,none,.ext (.t 10) 2⟩,⟨some 2,none,.mov (.t 13)⟩,⟨some 3,none,.mov (.t 14)⟩,⟨some 4,none,.mov (.t 15)⟩])
 (.seq (.region [⟨some 17,none,.load (.t 1) (some 5)⟩,⟨some 18,none,.call 29 [(.t 17), (.c (.int .i64 7)), (.c (.int .i64 1)), (.c (.int .i64 200))]⟩,⟨some 16,none,.mov (.t 18)⟩,⟨some 19,none,.ext (.t 16) 0⟩,⟨some 20,none,.ext (.t 16) 1⟩,⟨some 5,none,.mov (.t 19)⟩,⟨some 6,none,.mov (.t 20)⟩])
 (.seq (.region [⟨some 22,none,.load (.t 1) (some 5)⟩,⟨some 23,none,.call 24 [(.t 22), (.c (.int .i64 8)), (.c (.int .i64 1))]⟩,⟨some 21,none,.mov (.t 23)⟩,⟨some 24,none,.ext (.t 21) 0⟩,⟨some 25,none,.ext (.t 21) 1⟩,⟨some 7,none,.mov (.t 24)⟩,⟨some 8,none,.mov (.t 25)⟩])
 (.seq (.region [⟨some 26,none,.mov (.t 4)⟩,⟨some 27,none,.bin .eql (.t 26) (.c (.int .i64 0))⟩,⟨some 28,none,.mov (.t 27)⟩,⟨some 29, some (28, true),.mov (.t 6)⟩,⟨some 30, some (28, true),.bin .eql (.t 29) (.c (.int .i64 0))⟩,⟨some 31,none,.pick (.t 28) (.t 30) (.c (.bool false))⟩,⟨some 32,none,.mov (.t 31)⟩,⟨some 33, some (32, true),.mov (.t 8)⟩,⟨some 34, some (32, true),.bin .eql (.t 33) (.c (.int .i64 0))⟩,⟨some 35,none,.pick (.t 32) (.t 34) (.c (.bool false))⟩,⟨some 36,none,.mov (.t 35)⟩,⟨some 37, some (36, true),.mov (.t 2)⟩,⟨some 38, some (36, true),.bin .eql (.t 37) (.c (.int .i64 4))⟩,⟨some 39,none,.pick (.t 36) (.t 38) (.c (.bool false))⟩,⟨some 40,none,.mov (.t 39)⟩,⟨some 41, some (40, true),.mov (.t 3)⟩,⟨some 42, some (40, true),.bin .eql (.t 41) (.c (.int .i64 401))⟩,⟨some 43,none,.pick (.t 40) (.t 42) (.c (.bool false))⟩,⟨some 44,none,.mov (.t 43)⟩,⟨some 45, some (44, true),.mov (.t 5)⟩,⟨some 46, some (44, true),.bin .eql (.t 45) (.c (.int .i64 2))⟩,⟨some 47,none,.pick (.t 44) (.t 46) (.c (.bool false))⟩,⟨some 48,none,.mov (.t 47)⟩,⟨some 49, some (48, true),.mov (.t 7)⟩,⟨some 50, some (48, true),.lit false 3 1 [(.c (.int .i64 3))]⟩,⟨some 51, some (48, true),.call 35 [(.t 49), (.t 50)]⟩,⟨some 52,none,.pick (.t 48) (.t 51) (.c (.bool false))⟩,⟨some 0,none,.mov (.t 52)⟩])
 (.ret))))))
def r15 : List Res := [.t 0]
def a15 : AFn := ⟨0, c15, r15,.v⟩
def c16 : ACode := .seq (.region [⟨some 1,none,.box (.t 0) 5⟩,⟨some 2,none,.new (.agg [(.sl [] .tight), (.sl [] .tight), (.sl [] .tight), (.sl [] .tight), (.sl [] .tight)]) 5⟩])
 (.seq (.region [⟨some 9,none,.lit false 72 2 []⟩,⟨some 10,none,.addr (.t 1) 0⟩,⟨some 11,none,.load (.t 10) none⟩,⟨some 13,none,.lit false 3 1 []⟩,⟨some 14,none,.addr (.t 1) 4⟩,⟨some 15,none,.load (.t 14) none⟩,⟨none,none,.mov (.c .undef)⟩,⟨some 12,none,.app0 (.t 9) (.t 11) 72 2 16⟩,⟨some 16,none,.app0 (.t 13) (.t 15) 3 1 8⟩,⟨some 17,none,.build [(.sl [] .tight), (.sl [] .tight), (.sl [] .tight), (.sl [] .tight), (.sl [] .tight)] [(0, 1, (.t 12)), (4, 1, (.t 16))]⟩,⟨some 3,none,.box (.t 17) 5⟩])
 (.seq (.seq (.region [⟨some 4,none,.mov (.c (.int .i64 0))⟩])
 (.block 0 (.loop (.seq (.seq (.region [⟨some 18,none,.mov (.t 4)⟩,⟨some 19,none,.addr (.t 1) 1⟩,⟨some 20,none,.load (.t 19) none⟩,⟨some 21,none,.len (.t 20)⟩,⟨some 22,none,.bin .lss (.t 18) (.t 21)⟩])
 (.cond (.t 22) (.skip)
 (.exit 0)))
 (.seq (.block 1 (.seq (.region [⟨some 25,none,.addr (.t 1) 1⟩,⟨some 26,none,.load (.t 25) none⟩,⟨some 27,none,.mov (.t 4)⟩,⟨some 28,none,.idx (.t 26) (.t 27) 7⟩,⟨some 29,none,.load (.t 28) (some 7)⟩,⟨some 5,none,.new (.agg [(.int .i64 0), (.int .i64 0), (.int .i64 0), (.int .i64 0), (.int .i64 0), (.bool false), (.sl [] .tight)]) 7⟩,⟨none,none,.store (.t 5) (.t 29) 7⟩])
 (.seq (.region [⟨some 30,none,.lit false 3 1 []⟩,⟨some 31,none,.addr (.t 5) 6⟩,⟨some 32,none,.load (.t 31) none⟩,⟨some 33,none,.app0 (.t 30) (.t 32) 3 1 8⟩,⟨some 34,none,.addr (.t 5) 6⟩,⟨none,none,.store (.t 34) (.t 33) 1⟩])
 (.region [⟨some 35,none,.addr (.t 3) 1⟩,⟨some 36,none,.load (.t 35) none⟩,⟨some 37,none,.load (.t 5) (some 7)⟩,⟨some 38,none,.lit true 47 7 [(.t 37)]⟩,⟨some 39,none,.app true (.t 36) (.t 38) 47 7 72⟩,⟨some 40,none,.addr (.t 3) 1⟩,⟨none,none,.store (.t 40) (.t 39) 1⟩]))))
 (.region [⟨some 23,none,.mov (.t 4)⟩,⟨some 24,none,.bin .add (.t 23) (.c (.int .i64 1))⟩,⟨some 4,none,.mov (.t 24)⟩]))))))
 (.seq (.seq (.region [⟨some 6,none,.mov (.c (.int .i64 0))⟩])
 (.block 2 (.loop (.seq (.seq (.region [⟨some 41,none,.mov (.t 6)⟩,⟨some 42,none,.addr (.t 1) 2⟩,⟨some 43,none,.load (.t 42) none⟩,⟨some 44,none,.len (.t 43)⟩,⟨some 45,none,.bin .lss (.t 41) (.t 44)⟩])
 (.cond (.t 45) (.skip)
 (.exit 2)))
 (.seq (.block 3 (.seq (.region [⟨some 48,none,.addr (.t 1) 2⟩,⟨some 49,none,.load (.t 48) none⟩,⟨some 50,none,.mov (.t 6)⟩,⟨some 51,none,.idx (.t 49) (.t 50) 3⟩,⟨some 52,none,.load (.t 51) (some 3)⟩,⟨some 7,none,.new (.agg [(.int .i64 0), (.sl [] .tight), (.sl [] .tight)]) 3⟩,⟨none,none,.store (.t 7) (.t 52) 3⟩])
 (.seq (.region [⟨some 53,none,.lit false 3 1 []⟩,⟨some 54,none,.addr (.t 7) 1⟩,⟨some 55,none,.load (.t 54) none⟩,⟨some 57,none,.lit false 72 2 []⟩,⟨some 58,none,.addr (.t 7) 2⟩,⟨some 59,none,.load (.t 58) none⟩,⟨some 56,none,.app0 (.t 53) (.t 55) 3 1 8⟩,⟨some 61,none,.addr (.t 7) 1⟩,⟨some 60,none,.app0 (.t 57) (.t 59) 72 2 16⟩,⟨none,none,.store (.t 61) (.t 56) 1⟩,⟨some 62,none,.addr (.t 7) 2⟩,⟨none,none,.store (.t 62) (.t 60) 1⟩])
 (.region [⟨some 63,none,.addr (.t 3) 2⟩,⟨some 64,none,.load (.t 63) none⟩,⟨some 65,none,.load (.t 7) (some 3)⟩,⟨some 66,none,.lit true 51 3 [(.t 65)]⟩,⟨some 67,none,.app true (.t 64) (.t 66) 51 3 56⟩,⟨some 68,none,.addr (.t 3) 2⟩,⟨none,none,.store (.t 68) (.t 67) 1⟩]))))
 (.region [⟨some 46,none,.mov (.t 6)⟩,⟨some 47,none,.bin .add (.t 46) (.c (.int .i64 1))⟩,⟨some 6,none,.mov (.t 47)⟩]))))))
 (.seq (.seq (.region [⟨some 8,none,.mov (.c (.int .i64 0))⟩])
 (.block 4 (.loop (.seq (.seq (.region [⟨some 69,none,.mov (.t 8)⟩,⟨some 70,none,.addr (.t 1) 3⟩,⟨some 71,none,.load (.t 70) none⟩,⟨some 72,none,.len (.t 71)⟩,⟨some 73,none,.bin .lss (.t 69) (.t 72)⟩])
 (.cond (.t 73) (.skip)
 (.exit 4)))
 (.seq (.block 5 (.region [⟨some 76,none,.addr (.t 3) 3⟩,⟨some 77,none,.load (.t 76) none⟩,⟨some 78,none,.addr (.t 1) 3⟩,⟨some 79,none,.load (.t 78) none⟩,⟨some 80,none,.mov (.t 8)⟩,⟨some 81,none,.idx (.t 79) (.t 80) 5⟩,⟨some 82,none,.load (.t 81) (some 5)⟩,⟨some 83,none,.call 17 [(.t 82)]⟩,⟨some 84,none,.lit true 37 5 [(.t 83)]⟩,⟨some 85,none,.app true (.t 77) (.t 84) 37 5 56⟩,⟨some 86,none,.addr (.t 3) 3⟩,⟨none,none,.store (.t 86) (.t 85) 1⟩]))
 (.region [⟨some 74,none,.mov (.t 8)⟩,⟨some 75,none,.bin .add (.t 74) (.c (.int .i64 1))⟩,⟨some 8,none,.mov (.t 75)⟩]))))))
 (.seq (.region [⟨some 87,none,.load (.t 3) (some 5)⟩,⟨none,none,.store (.t 2) (.t 87) 5⟩])
 (.ret))))))
def r16 : List Res := [.cell 2 (some 5)]
def a16 : AFn := ⟨1, c16, r16,.o⟩
def c17 : ACode := .seq (.region [⟨some 1,none,.box (.t 0) 5⟩,⟨some 2,none,.new (.agg [(.int .i64 0), (.int .i64 0), (.sl [] .tight), (.int .i64 0), (.int .i64 0)]) 5⟩])
 (.seq (.region [⟨some 3,none,.lit false 3 1 []⟩,⟨some 4,none,.addr (.t 1) 2⟩,⟨some 5,none,.load (.t 4) none⟩,⟨some 6,none,.app0 (.t 3) (.t 5) 3 1 8⟩,⟨some 7,none,.addr (.t 1) 2⟩,⟨none,none,.store (.t 7) (.t 6) 1⟩])
 (.seq (.region [⟨some 8,none,.load (.t 1) (some 5)⟩,⟨none,none,.store (.t 2) (.t 8) 5⟩])
 (.ret)))
def r17 : List Res := [.cell 2 (some 5)]
def a17 : AFn := ⟨1, c17, r17,.o⟩
def c18 : ACode := .seq (.region [⟨some 4,none,.box (.t 0) 5⟩,⟨some 8,none,.mov (.c (.int .i64 0))⟩,⟨some 9,none,.mov (.c (.int .i64 0))⟩,⟨some 10,none,.mov (.c (.int .i64 0))⟩])
 (.seq (.region [⟨some 13,none,.load (.t 4) (some 5)⟩,⟨some 14,none,.mov (.t 1)⟩,⟨some 15,none,.mov (.t 2)⟩,⟨some 16,none,.mov (.t 3)⟩,⟨some 17,none,.call 43 [(.t 13), (.t 14), (.t 15), (.t 16)]⟩,⟨some 12,none,.mov (.t 17)⟩,⟨some 18,none,.ext (.t 12) 0⟩,⟨some 19,none,.ext (.t 12) 1⟩,⟨some 11,none,.new (.agg [(.int .i64 0), (.int .i64 0), (.int .i64 0), (.int .i64 0), (.int .i64 0), (.bool false), (.sl [] .tight), (.sl [] .tight), (.sl [] .tight), (.sl [] .tight), (.sl [] .tight), (.sl [] .tight)]) 12⟩,⟨none,none,.store (.t 11) (.t 18) 12⟩,⟨some 10,none,.mov (.t 19)⟩])
 (.seq (.seq (.region [⟨some 20,none,.mov (.t 10)⟩,⟨some 21,none,.bin .neq (.t 20) (.c (.int .i64 0))⟩])
 (.cond (.t 21) (.seq (.region [⟨some 22,none,.mov (.t 10)⟩,⟨some 8,none,.mov (.c (.int .i64 0))⟩,⟨some 9,none,.mov (.c (.int .i64 0))⟩,⟨some 10,none,.mov (.t 22)⟩])
 (.ret))
 (.skip)))
 (.seq (.region [⟨some 24,none,.load (.t 11) (some 12)⟩,⟨some 25,none,.mov (.t 3)⟩,⟨some 26,none,.call 44 [(.t 24), (.t 25)]⟩,⟨some 23,none,.mov (.t 26)⟩,⟨some 27,none,.ext (.t 23) 0⟩,⟨some 28,none,.ext (.t 23) 1⟩,⟨some 8,none,.mov (.t 27)⟩,⟨some 9,none,.mov (.t 28)⟩])
 (.seq (.region [⟨some 29,none,.mov (.t 8)⟩,⟨some 30,none,.mov (.t 9)⟩,⟨some 8,none,.mov (.t 29)⟩,⟨some 9,none,.mov (.t 30)⟩,⟨some 10,none,.mov (.c (.int .i64 0))⟩])
 (.ret)))))
def r18 : List Res := [.t 8,.t 9,.t 10]
def a18 : AFn := ⟨4, c18, r18,.v⟩
def c21 : ACode := .seq (.region [⟨some 2,none,.box (.t 0) 5⟩,⟨some 4,none,.new (.agg [(.int .i64 0), (.int .i64 0), (.int .i64 0), (.int .i64 0), (.int .i64 0), (.bool false), (.sl [] .tight)]) 7⟩,⟨some 5,none,.mov (.c (.bool false))⟩])
 (.seq (.seq (.region [⟨some 6,none,.mov (.c (.int .i64 0))⟩])
 (.block 0 (.loop (.seq (.seq (.region [⟨some 7,none,.mov (.t 6)⟩,⟨some 8,none,.addr (.t 2) 1⟩,⟨some 9,none,.load (.t 8) none⟩,⟨some 10,none,.len (.t 9)⟩,⟨some 11,none,.bin .lss (.t 7) (.t 10)⟩])
 (.cond (.t 11) (.skip)
 (.exit 0)))
 (.seq (.block 1 (.seq (.region [⟨some 14,none,.addr (.t 2) 1⟩,⟨some 15,none,.load (.t 14) none⟩,⟨some 16,none,.mov (.t 6)⟩,⟨some 17,none,.idx (.t 15) (.t 16) 7⟩,⟨some 18,none,.addr (.t 17) 0⟩,⟨some 19,none,.load (.t 18) none⟩,⟨some 20,none,.mov (.t 1)⟩,⟨some 21,none,.bin .eql (.t 19) (.t 20)⟩])
 (.cond (.t 21) (.seq (.region [⟨some 22,none,.addr (.t 2) 1⟩,⟨some 23,none,.load (.t 22) none⟩,⟨some 24,none,.mov (.t 6)⟩,⟨some 25,none,.idx (.t 23) (.t 24) 7⟩,⟨some 26,none,.load (.t 25) (some 7)⟩,⟨none,none,.store (.t 4) (.t 26) 7⟩,⟨some 5,none,.mov (.c (.bool true))⟩])
 (.ret))
 (.skip))))
 (.region [⟨some 12,none,.mov (.t 6)⟩,⟨some 13,none,.bin .add (.t 12) (.c (.int .i64 1))⟩,⟨some 6,none,.mov (.t 13)⟩]))))))
 (.seq (.region [⟨some 27,none,.build [(.int .i64 0), (.int .i64 0), (.int .i64 0), (.int .i64 0), (.int .i64 0), (.bool false), (.sl [] .tight)] []⟩,⟨none,none,.store (.t 4) (.t 27) 7⟩,⟨some 5,none,.mov (.c (.bool false))⟩])
 (.ret)))
def r21 : List Res := [.cell 4 (some 7),.t 5]
def a21 : AFn := ⟨2, c21, r21,.v⟩
def c22 : ACode := .seq (.region [⟨some 2,none,.box (.t 0) 5⟩,⟨some 4,none,.new (.agg [(.int .i64 0), (.sl [] .tight), (.sl [] .tight)]) 3⟩,⟨some 5,none,.mov (.c (.bool false))⟩])
 (.seq (.seq (.region [⟨some 6,none,.mov (.c (.int .i64 0))⟩])
 (.block 0 (.loop (.seq (.seq (.region [⟨some 7,none,.mov (.t 6)⟩,⟨some 8,none,.addr (.t 2) 2⟩,⟨some 9,none,.load (.t 8) none⟩,⟨some 10,none,.len (.t 9)⟩,⟨some 11,none,.bin .lss (.t 7) (.t 10)⟩])
 (.cond (.t 11) (.skip)
 (.exit 0)))
 (.seq (.block 1 (.seq (.region [⟨some 14,none,.addr (.t 2) 2⟩,⟨some 15,none,.load (.t 14) none⟩,⟨some 16,none,.mov (.t 6)⟩,⟨some 17,none,.idx (.t 15) (.t 16) 3⟩,⟨some 18,none,.addr (.t 17) 0⟩,⟨some 19,none,.load (.t 18) none⟩,⟨some 20,none,.mov (.t 1)⟩,⟨some 21,none,.bin .eql (.t 19) (.t 20)⟩])
 (.cond (.t 21) (.seq (.region [⟨some 22,none,.addr (.t 2) 2⟩,⟨some 23,none,.load (.t 22) none⟩,⟨some 24,none,.mov (.t 6)⟩,⟨some 25,none,.idx (.t 23) (.t 24) 3⟩,⟨some 26,none,.load (.t 25) (some 3)⟩,⟨none,none,.store (.t 4) (.t 26) 3⟩,⟨some 5,none,.mov (.c (.bool true))⟩])
 (.ret))
 (.skip))))
 (.region [⟨some 12,none,.mov (.t 6)⟩,⟨some 13,none,.bin .add (.t 12) (.c (.int .i64 1))⟩,⟨some 6,none,.mov (.t 13)⟩]))))))
 (.seq (.region [⟨some 27,none,.build [(.int .i64 0), (.sl [] .tight), (.sl [] .tight)] []⟩,⟨none,none,.store (.t 4) (.t 27) 3⟩,⟨some 5,none,.mov (.c (.bool false))⟩])
 (.ret)))
def r22 : List Res := [.cell 4 (some 3),.t 5]
def a22 : AFn := ⟨2, c22, r22,.v⟩
def c23 : ACode := .seq (.region [⟨some 3,none,.box (.t 0) 5⟩,⟨some 6,none,.mov (.c (.sl [] .tight))⟩,⟨some 7,none,.mov (.c (.int .i64 0))⟩])
 (.seq (.region [⟨some 11,none,.load (.t 3) (some 5)⟩,⟨some 12,none,.mov (.t 1)⟩,⟨some 13,none,.mov (.t 2)⟩,⟨some 14,none,.call 54 [(.t 11), (.t 12), (.t 13)]⟩,⟨some 10,none,.mov (.t 14)⟩,⟨some 15,none,.ext (.t 10) 0⟩,⟨some 16,none,.ext (.t 10) 1⟩,⟨some 8,none,.new (.agg [(.int .i64 0), (.int .i64 0), (.int .i64 0), (.int .i64 0), (.int .i64 0), (.bool false), (.sl [] .tight), (.sl [] .tight), (.sl [] .tight), (.sl [] .tight), (.sl [] .tight), (.sl [] .tight)]) 12⟩,⟨none,none,.store (.t 8) (.t 15) 12⟩,⟨some 9,none,.mov (.t 16)⟩])
 (.seq (.region [⟨some 17,none,.addr (.t 8) 11⟩,⟨some 18,none,.load (.t 17) none⟩,⟨some 19,none,.mov (.t 9)⟩,⟨some 6,none,.mov (.t 18)⟩,⟨some 7,none,.mov (.t 19)⟩])
 (.ret)))
def r23 : List Res := [.t 6,.t 7]
def a23 : AFn := ⟨3, c23, r23,.v⟩
def c24 : ACode := .seq (.region [⟨some 3,none,.box (.t 0) 5⟩,⟨some 6,none,.mov (.c (.sl [] .tight))⟩,⟨some 7,none,.mov (.c (.int .i64 0))⟩])
 (.seq (.region [⟨some 11,none,.load (.t 3) (some 5)⟩,⟨some 12,none,.mov (.t 1)⟩,⟨some 13,none,.mov (.t 2)⟩,⟨some 14,none,.call 54 [(.t 11), (.t 12), (.t 13)]⟩,⟨some 10,none,.mov (.t 14)⟩,⟨some 15,none,.ext (.t 10) 0⟩,⟨some 16,none,.ext (.t 10) 1⟩,⟨some 8,none,.new (.agg [(.int .i64 0), (.int .i64 0), (.int .i64 0), (.int .i64 0), (.int .i64 0), (.bool false), (.sl [] .tight), (.sl [] .tight), (.sl [] .tight), (.sl [] .tight), (.sl [] .tight), (.sl [] .tight)]) 12⟩,⟨none,none,.store (.t 8) (.t 15) 12⟩,⟨some 9,none,.mov (.t 16)⟩])
 (.seq (.region [⟨some 17,none,.addr (.t 8) 8⟩,⟨some 18,none,.load (.t 17) none⟩,⟨some 19,none,.mov (.t 9)⟩,⟨some 6,none,.mov (.t 18)⟩,⟨some 7,none,.mov (.t 19)⟩])
 (.ret)))
def r24 : List Res := [.t 6,.t 7]
def a24 : AFn := ⟨3, c24, r24,.v⟩
def c25 : ACode := .seq (.region [⟨some 4,none,.mov (.c (.bool false))⟩])
 (.seq (.seq (.region [⟨some 5,none,.mov (.c (.int .i64 0))⟩])
 (.block 0 (.loop (.seq (.seq (.region [⟨some 6,none,.mov (.t 5)⟩,⟨some 7,none,.mov (.t 0)⟩,⟨some 8,none,.len (.t 7)⟩,⟨some 9,none,.bin .lss (.t 6) (.t 8)⟩])
 (.cond (.t 9) (.skip)
 (.exit 0)))
 (.seq (.block 1 (.seq (.region [⟨some 12,none,.mov (.t 0)⟩,⟨some 13,none,.mov (.t 5)⟩,⟨some 14,none,.idx (.t 12) (.t 13) 2⟩,⟨some 15,none,.addr (.t 14) 0⟩,⟨some 16,none,.load (.t 15) none⟩,⟨some 17,none,.mov (.t 1)⟩,⟨some 18,none,.bin .leq (.t 16) (.t 17)⟩,⟨some 19,none,.mov (.t 18)⟩,⟨some 20, some (19, true),.mov (.t 1)⟩,⟨some 21, some (19, true),.mov (.t 0)⟩,⟨some 22, some (19, true),.mov (.t 5)⟩,⟨some 23, some (19, true),.idx (.t 21) (.t 22) 2⟩,⟨some 24, some (19, true),.addr (.t 23) 1⟩,⟨some 25, some (19, true),.load (.t 24) none⟩,⟨some 26, some (19, true),.bin .leq (.t 20) (.t 25)⟩,⟨some 27,none,.pick (.t 19) (.t 26) (.c (.bool false))⟩])
 (.cond (.t 27) (.seq (.region [⟨some 4,none,.mov (.c (.bool true))⟩])
 (.ret))
 (.skip))))
 (.region [⟨some 10,none,.mov (.t 5)⟩,⟨some 11,none,.bin .add (.t 10) (.c (.int .i64 1))⟩,⟨some 5,none,.mov (.t 11)⟩]))))))
 (.seq (.region [⟨some 4,none,.mov (.c (.bool false))⟩])
 (.ret)))
def r25 : List Res := [.t 4]
def a25 : AFn := ⟨2, c25, r25,.v⟩
def c26 : ACode := .seq (.region [⟨some 4,none,.mov (.c (.bool false))⟩])
 (.seq (.seq (.region [⟨some 5,none,.mov (.c (.int .i64 0))⟩])
 (.block 0 (.loop (.seq (.seq (.region [⟨some 6,none,.mov (.t 5)⟩,⟨some 7,none,.mov (.t 0)⟩,⟨some 8,none,.len (.t 7)⟩,⟨some 9,none,.bin .lss (.t 6) (.t 8)⟩])
 (.cond (.t 9) (.skip)
 (.exit 0)))
 (.seq (.block 1 (.seq (.region [⟨some 12,none,.mov (.t 0)⟩,⟨some 13,none,.mov (.t 5)⟩,⟨some 14,none,.idx (.t 12) (.t 13) 1⟩,⟨some 15,none,.load (.t 14) none⟩,⟨some 16,none,.mov (.t 1)⟩,⟨some 17,none,.bin .eql (.t 15) (.t 16)⟩])
 (.cond (.t 17) (.seq (.region [⟨some 4,none,.mov (.c (.bool true))⟩])
 (.ret))
 (.skip))))
 (.region [⟨some 10,none,.mov (.t 5)⟩,⟨some 11,none,.bin .add (.t 10) (.c (.int .i64 1))⟩,⟨some 5,none,.mov (.t 11)⟩]))))))
 (.seq (.region [⟨some 4,none,.mov (.c (.bool false))⟩])
 (.ret)))
def r26 : List Res := [.t 4]
def a26 : AFn := ⟨2, c26, r26,.v⟩
def c27 : ACode := .seq (.region [⟨some 1,none,.box (.t 0) 5⟩,⟨some 2,none,.mov (.c (.int .i64 0))⟩])
 (.seq (.seq (.region [⟨some 3,none,.load (.t 1) (some 5)⟩,⟨some 4,none,.call 55 [(.t 3)]⟩,⟨some 5,none,.not (.t 4)⟩])
 (.cond (.t 5) (.seq (.region [⟨some 2,none,.mov (.c (.int .i64 20))⟩])
 (.ret))
 (.skip)))
 (.seq (.seq (.region [⟨some 6,none,.addr (.t 1) 3⟩,⟨some 7,none,.load (.t 6) none⟩,⟨some 8,none,.call 56 [(.t 7)]⟩])
 (.cond (.t 8) (.seq (.region [⟨some 2,none,.mov (.c (.int .i64 21))⟩])
 (.ret))
 (.skip)))
 (.seq (.region [⟨some 2,none,.mov (.c (.int .i64 0))⟩])
 (.ret))))
def r27 : List Res := [.t 2]
def a27 : AFn := ⟨1, c27, r27,.v⟩
def c28 : ACode := .seq (.region [⟨some 4,none,.box (.t 0) 5⟩,⟨some 7,none,.box (.t 3) 1⟩,⟨some 8,none,.mov (.c (.int .i64 0))⟩,⟨some 9,none,.mov (.c (.int .i64 0))⟩])
 (.seq (.region [⟨some 16,none,.load (.t 4) (some 5)⟩,⟨some 17,none,.mov (.t 1)⟩,⟨some 18,none,.mov (.t 2)⟩,⟨some 19,none,.load (.t 7) none⟩,⟨some 20,none,.call 43 [(.t 16), (.t 17), (.t 18), (.t 19)]⟩,⟨some 15,none,.mov (.t 20)⟩,⟨some 21,none,.ext (.t 15) 0⟩,⟨some 22,none,.ext (.t 15) 1⟩,⟨some 10,none,.new (.agg [(.int .i64 0), (.int .i64 0), (.int .i64 0), (.int .i64 0), (.int .i64 0), (.bool false), (.sl [] .tight), (.sl [] .tight), (.sl [] .tight), (.sl [] .tight), (.sl [] .tight), (.sl [] .tight)]) 12⟩,⟨none,none,.store (.t 10) (.t 21) 12⟩,⟨some 11,none,.mov (.t 22)⟩])
 (.seq (.seq (.region [⟨some 23,none,.mov (.t 11)⟩,⟨some 24,none,.bin .neq (.t 23) (.c (.int .i64 0))⟩])
 (.cond (.t 24) (.seq (.region [⟨some 25,none,.mov (.t 11)⟩,⟨some 8,none,.mov (.c (.int .i64 0))⟩,⟨some 9,none,.mov (.t 25)⟩])
 (.ret))
 (.skip)))
 (.seq (.region [⟨some 26,none,.clo 57 [] [(.t 10), (.t 7)]⟩,⟨some 12,none,.mov (.t 26)⟩])
 (.seq (.region [⟨some 28,none,.addr (.t 10) 11⟩,⟨some 29,none,.load (.t 28) none⟩,⟨some 30,none,.mov (.t 12)⟩,⟨some 31,none,.call 59 [(.t 29), (.t 30)]⟩,⟨some 27,none,.mov (.t 31)⟩,⟨some 32,none,.ext (.t 27) 0⟩,⟨some 33,none,.ext (.t 27) 1⟩,⟨some 13,none,.new (.agg [(.int .i64 0), (.int .i64 0)]) 2⟩,⟨none,none,.store (.t 13) (.t 32) 2⟩,⟨some 14,none,.mov (.t 33)⟩])
 (.seq (.seq (.region [⟨some 34,none,.mov (.t 14)⟩,⟨some 35,none,.not (.t 34)⟩])
 (.cond (.t 35) (.seq (.region [⟨some 8,none,.mov (.c (.int .i64 0))⟩,⟨some 9,none,.mov (.c (.int .i64 3))⟩])
 (.ret))
 (.skip)))
 (.seq (.region [⟨some 36,none,.addr (.t 13) 0⟩,⟨some 37,none,.load (.t 36) none⟩,⟨some 38,none,.load (.t 7) none⟩,⟨some 39,none,.mnx true (.t 37) (.t 38)⟩,⟨some 8,none,.mov (.t 39)⟩,⟨some 9,none,.mov (.c (.int .i64 0))⟩])
 (.ret)))))))
def r28 : List Res := [.t 8,.t 9]
def a28 : AFn := ⟨4, c28, r28,.v⟩
def c29 : ACode := .seq (.region [⟨some 4,none,.box (.t 0) 5⟩,⟨some 8,none,.mov (.c (.int .i64 0))⟩,⟨some 9,none,.mov (.c (.int .i64 0))⟩])
 (.seq (.region [⟨some 13,none,.load (.t 4) (some 5)⟩,⟨some 14,none,.mov (.t 1)⟩,⟨some 15,none,.mov (.t 2)⟩,⟨some 16,none,.mov (.t 3)⟩,⟨some 17,none,.call 43 [(.t 13), (.t 14), (.t 15), (.t 16)]⟩,⟨some 12,none,.mov (.t 17)⟩,⟨some 18,none,.ext (.t 12) 0⟩,⟨some 19,none,.ext (.t 12) 1⟩,⟨some 10,none,.new (.agg [(.int .i64 0), (.int .i64 0), (.int .i64 0), (.int .i64 0), (.int .i64 0), (.bool false), (.sl [] .tight), (.sl [] .tight), (.sl [] .tight), (.sl [] .tight), (.sl [] .tight), (.sl [] .tight)]) 12⟩,⟨none,none,.store (.t 10) (.t 18) 12⟩,⟨some 11,none,.mov (.t 19)⟩])
 (.seq (.seq (.region [⟨some 20,none,.mov (.t 11)⟩,⟨some 21,none,.bin .neq (.t 20) (.c (.int .i64 0))⟩])
 (.cond (.t 21) (.seq (.region [⟨some 22,none,.mov (.t 11)⟩,⟨some 8,none,.mov (.c (.int .i64 0))⟩,⟨some 9,none,.mov (.t 22)⟩])
 (.ret))
 (.skip)))
 (.seq (.seq (.region [⟨some 23,none,.load (.t 10) (some 12)⟩,⟨some 24,none,.mov (.t 3)⟩,⟨some 25,none,.call 58 [(.t 23), (.t 24)]⟩,⟨some 26,none,.not (.t 25)⟩])
 (.cond (.t 26) (.seq (.region [⟨some 8,none,.mov (.c (.int .i64 0))⟩,⟨some 9,none,.mov (.c (.int .i64 3))⟩])
 (.ret))
 (.skip)))
 (.seq (.region [⟨some 27,none,.load (.t 10) (some 12)⟩,⟨some 28,none,.mov (.t 3)⟩,⟨some 29,none,.call 60 [(.t 27), (.t 28)]⟩,⟨some 8,none,.mov (.t 29)⟩,⟨some 9,none,.mov (.c (.int .i64 0))⟩])
 (.ret)))))
def r29 : List Res := [.t 8,.t 9]
def a29 : AFn := ⟨4, c29, r29,.v⟩
def c31 : ACode := .seq (.region [⟨some 1,none,.box (.t 0) 5⟩,⟨some 2,none,.mov (.c (.bool false))⟩])
 (.seq (.seq (.region [⟨some 6,none,.addr (.t 1) 0⟩,⟨some 7,none,.load (.t 6) none⟩,⟨some 8,none,.len (.t 7)⟩,⟨some 9,none,.bin .gtr (.t 8) (.c (.int .i64 50))⟩,⟨some 10,none,.mov (.t 9)⟩,⟨some 11, some (10, false),.addr (.t 1) 1⟩,⟨some 12, some (10, false),.load (.t 11) none⟩,⟨some 13, some (10, false),.len (.t 12)⟩,⟨some 14, some (10, false),.bin .gtr (.t 13) (.c (.int .i64 30))⟩,⟨some 15,none,.pick (.t 10) (.c (.bool true)) (.t 14)⟩,⟨some 16,none,.mov (.t 15)⟩,⟨some 17, some (16, false),.addr (.t 1) 2⟩,⟨some 18, some (16, false),.load (.t 17) none⟩,⟨some 19, some (16, false),.len (.t 18)⟩,⟨some 20, some (16, false),.bin .gtr (.t 19) (.c (.int .i64 30))⟩,⟨some 21,none,.pick (.t 16) (.c (.bool true)) (.t 20)⟩,⟨some 22,none,.mov (.t 21)⟩,⟨some 23, some (22, false),.addr (.t 1) 3⟩,⟨some 24, some (22, false),.load (.t 23) none⟩,⟨some 25, some (22, false),.len (.t 24)⟩,⟨some 26, some (22, false),.bin .gtr (.t 25) (.c (.int .i64 50))⟩,⟨some 27,none,.pick (.t 22) (.c (.bool true)) (.t 26)⟩,⟨some 28,none,.mov (.t 27)⟩,⟨some 29, some (28, false),.addr (.t 1) 4⟩,⟨some 30, some (28, false),.load (.t 29) none⟩,⟨some 31, some (28, false),.len (.t 30)⟩,⟨some 32, some (28, false),.bin .gtr (.t 31) (.c (.int .i64 50))⟩,⟨some 33,none,.pick (.t 28) (.c (.bool true)) (.t 32)⟩])
 (.cond (.t 33) (.seq (.region [⟨some 2,none,.mov (.c (.bool true))⟩])
 (.ret))
 (.skip)))
 (.seq (.seq (.region [⟨some 3,none,.mov (.c (.int .i64 0))⟩])
 (.block 0 (.loop (.seq (.seq (.region [⟨some 34,none,.mov (.t 3)⟩,⟨some 35,none,.addr (.t 1) 1⟩,⟨some 36,none,.load (.t 35) none⟩,⟨some 37,none,.len (.t 36)⟩,⟨some 38,none,.bin .lss (.t 34) (.t 37)⟩])
 (.cond (.t 38) (.skip)
 (.exit 0)))
 (.seq (.block 1 (.seq (.region [⟨some 41,none,.addr (.t 1) 1⟩,⟨some 42,none,.load (.t 41) none⟩,⟨some 43,none,.mov (.t 3)⟩,⟨some 44,none,.idx (.t 42) (.t 43) 7⟩,⟨some 45,none,.addr (.t 44) 6⟩,⟨some 46,none,.load (.t 45) none⟩,⟨some 47,none,.len (.t 46)⟩,⟨some 48,none,.bin .gtr (.t 47) (.c (.int .i64 50))⟩])
 (.cond (.t 48) (.seq (.region [⟨some 2,none,.mov (.c (.bool true))⟩])
 (.ret))
 (.skip))))
 (.region [⟨some 39,none,.mov (.t 3)⟩,⟨some 40,none,.bin .add (.t 39) (.c (.int .i64 1))⟩,⟨some 3,none,.mov (.t 40)⟩]))))))
 (.seq (.seq (.region [⟨some 4,none,.mov (.c (.int .i64 0))⟩])
 (.block 2 (.loop (.seq (.seq (.region [⟨some 49,none,.mov (.t 4)⟩,⟨some 50,none,.addr (.t 1) 2⟩,⟨some 51,none,.load (.t 50) none⟩,⟨some 52,none,.len (.t 51)⟩,⟨some 53,none,.bin .lss (.t 49) (.t 52)⟩])
 (.cond (.t 53) (.skip)
 (.exit 2)))
 (.seq (.block 3 (.seq (.region [⟨some 56,none,.addr (.t 1) 2⟩,⟨some 57,none,.load (.t 56) none⟩,⟨some 58,none,.mov (.t 4)⟩,⟨some 59,none,.idx (.t 57) (.t 58) 3⟩,⟨some 60,none,.addr (.t 59) 1⟩,⟨some 61,none,.load (.t 60) none⟩,⟨some 62,none,.len (.t 61)⟩,⟨some 63,none,.bin .gtr (.t 62) (.c (.int .i64 50))⟩,⟨some 64,none,.mov (.t 63)⟩,⟨some 65, some (64, false),.addr (.t 1) 2⟩,⟨some 66, some (64, false),.load (.t 65) none⟩,⟨some 67, some (64, false),.mov (.t 4)⟩,⟨some 68, some (64, false),.idx (.t 66) (.t 67) 3⟩,⟨some 69, some (64, false),.addr (.t 68) 2⟩,⟨some 70, some (64, false),.load (.t 69) none⟩,⟨some 71, some (64, false),.len (.t 70)⟩,⟨some 72, some (64, false),.bin .gtr (.t 71) (.c (.int .i64 50))⟩,⟨some 73,none,.pick (.t 64) (.c (.bool true)) (.t 72)⟩])
 (.cond (.t 73) (.seq (.region [⟨some 2,none,.mov (.c (.bool true))⟩])
 (.ret))
 (.skip))))
 (.region [⟨some 54,none,.mov (.t 4)⟩,⟨some 55,none,.bin .add (.t 54) (.c (.int .i64 1))⟩,⟨some 4,none,.mov (.t 55)⟩]))))))
 (.seq (.seq (.region [⟨some 5,none,.mov (.c (.int .i64 0))⟩])
 (.block 4 (.loop (.seq (.seq (.region [⟨some 74,none,.mov (.t 5)⟩,⟨some 75,none,.addr (.t 1) 3⟩,⟨some 76,none,.load (.t 75) none⟩,⟨some 77,none,.len (.t 76)⟩,⟨some 78,none,.bin .lss (.t 74) (.t 77)⟩])
 (.cond (.t 78) (.skip)
 (.exit 4)))
 (.seq (.block 5 (.seq (.region [⟨some 81,none,.addr (.t 1) 3⟩,⟨some 82,none,.load (.t 81) none⟩,⟨some 83,none,.mov (.t 5)⟩,⟨some 84,none,.idx (.t 82) (.t 83) 5⟩,⟨some 85,none,.addr (.t 84) 2⟩,⟨some 86,none,.load (.t 85) none⟩,⟨some 87,none,.len (.t 86)⟩,⟨some 88,none,.bin .gtr (.t 87) (.c (.int .i64 50))⟩])
 (.cond (.t 88) (.seq (.region [⟨some 2,none,.mov (.c (.bool true))⟩])
 (.ret))
 (.skip))))
 (.region [⟨some 79,none,.mov (.t 5)⟩,⟨some 80,none,.bin .add (.t 79) (.c (.int .i64 1))⟩,⟨some 5,none,.mov (.t 80)⟩]))))))
 (.seq (.region [⟨some 2,none,.mov (.c (.bool false))⟩])
 (.ret))))))
def r31 : List Res := [.t 2]
def a31 : AFn := ⟨1, c31, r31,.v⟩
def c32 : ACode := .seq (.region [⟨some 1,none,.box (.t 0) 5⟩,⟨some 2,none,.mov (.c (.int .i64 0))⟩])
 (.seq (.block 0 (.seq (.region [⟨some 4,none,.load (.t 1) (some 5)⟩,⟨some 5,none,.call 61 [(.t 4)]⟩,⟨some 6,none,.not (.t 5)⟩,⟨some 3,none,.mov (.t 6)⟩])
 (.cond (.t 3) (.seq (.region [⟨some 2,none,.mov (.c (.int .i64 20))⟩])
 (.ret))
 (.seq (.region [⟨some 8,none,.addr (.t 1) 3⟩,⟨some 9,none,.load (.t 8) none⟩,⟨some 10,none,.call 50 [(.t 9)]⟩,⟨some 7,none,.mov (.t 10)⟩])
 (.cond (.t 7) (.seq (.region [⟨some 2,none,.mov (.c (.int .i64 21))⟩])
 (.ret))
 (.skip))))))
 (.seq (.region [⟨some 2,none,.mov (.c (.int .i64 0))⟩])
 (.ret)))
def r32 : List Res := [.t 2]
def a32 : AFn := ⟨1, c32, r32,.v⟩
def c35 : ACode := .seq (.region [⟨some 4,none,.mov (.c (.bool false))⟩])
 (.seq (.seq (.region [⟨some 6,none,.mov (.t 0)⟩,⟨some 7,none,.len (.t 6)⟩,⟨some 8,none,.mov (.t 1)⟩,⟨some 9,none,.len (.t 8)⟩,⟨some 10,none,.bin .neq (.t 7) (.t 9)⟩])
 (.cond (.t 10) (.seq (.region [⟨some 4,none,.mov (.c (.bool false))⟩])
 (.ret))
 (.skip)))
 (.seq (.seq (.region [⟨some 5,none,.mov (.c (.int .i64 0))⟩])
 (.block 0 (.loop (.seq (.seq (.region [⟨some 11,none,.mov (.t 5)⟩,⟨some 12,none,.mov (.t 0)⟩,⟨some 13,none,.len (.t 12)⟩,⟨some 14,none,.bin .lss (.t 11) (.t 13)⟩])
 (.cond (.t 14) (.skip)
 (.exit 0)))
 (.seq (.block 1 (.seq (.region [⟨some 17,none,.mov (.t 0)⟩,⟨some 18,none,.mov (.t 5)⟩,⟨some 19,none,.idx (.t 17) (.t 18) 1⟩,⟨some 20,none,.load (.t 19) none⟩,⟨some 21,none,.mov (.t 1)⟩,⟨some 22,none,.mov (.t 5)⟩,⟨some 23,none,.idx (.t 21) (.t 22) 1⟩,⟨some 24,none,.load (.t 23) none⟩,⟨some 25,none,.bin .neq (.t 20) (.t 24)⟩])
 (.cond (.t 25) (.seq (.region [⟨some 4,none,.mov (.c (.bool false))⟩])
 (.ret))
 (.skip))))
 (.region [⟨some 15,none,.mov (.t 5)⟩,⟨some 16,none,.bin .add (.t 15) (.c (.int .i64 1))⟩,⟨some 5,none,.mov (.t 16)⟩]))))))
 (.seq (.region [⟨some 4,none,.mov (.c (.bool true))⟩])
 (.ret))))
def r35 : List Res := [.t 4]
def a35 : AFn := ⟨2, c35, r35,.v⟩
def c42 : ACode := .seq (.region [⟨some 0,none,.new (.agg [(.sl [] .tight), (.sl [] .tight), (.sl [] .tight), (.sl [] .tight), (.sl [] .tight)]) 5⟩])
 (.seq (.region [⟨some 1,none,.build [(.int .i64 0), (.int .i64 0)] [(0, 1, (.c (.int .i64 1))), (1, 1, (.c (.int .i64 11)))]⟩,⟨some 2,none,.build [(.int .i64 0), (.int .i64 0)] [(0, 1, (.c (.int .i64 2))), (1, 1, (.c (.int .i64 22)))]⟩,⟨some 3,none,.build [(.int .i64 0), (.int .i64 0)] [(0, 1, (.c (.int .i64 3))), (1, 1, (.c (.int .i64 33)))]⟩,⟨some 4,none,.lit false 72 2 [(.t 1), (.t 2), (.t 3)]⟩,⟨some 5,none,.lit false 3 1 [(.c (.int .i64 1)), (.c (.int .i64 2))]⟩,⟨some 6,none,.build [(.int .i64 0), (.int .i64 0), (.int .i64 0), (.int .i64 0), (.int .i64 0), (.bool false), (.sl [] .tight)] [(0, 1, (.c (.int .i64 7))), (1, 1, (.c (.int .i64 1))), (2, 1, (.c (.int .i64 1))), (4, 1, (.c (.int .i64 100))), (5, 1, (.c (.bool true))), (6, 1, (.t 5))]⟩,⟨some 7,none,.lit false 3 1 [(.c (.int .i64 1)), (.c (.int .i64 3))]⟩,⟨some 8,none,.build [(.int .i64 0), (.int .i64 0), (.int .i64 0), (.int .i64 0), (.int .i64 0), (.bool false), (.sl [] .tight)] [(0, 1, (.c (.int .i64 8))), (1, 1, (.c (.int .i64 1))), (2, 1, (.c (.int .i64 2))), (3, 1, (.c (.int .i64 1))), (4, 1, (.c (.int .i64 100))), (5, 1, (.c (.bool true))), (6, 1, (.t 7))]⟩,⟨some 9,none,.lit false 3 1 [(.c (.int .i64 3))]⟩,⟨some 10,none,.build [(.int .i64 0), (.int .i64 0), (.int .i64 0), (.int .i64 0), (.int .i64 0), (.bool false), (.sl [] .tight)] [(0, 1, (.c (.int .i64 9))), (1, 1, (.c (.int .i64 2))), (2, 1, (.c (.int .i64 1))), (4, 1, (.c (.int .i64 20))), (6, 1, (.t 9))]⟩,⟨some 11,none,.lit false 47 7 [(.t 6), (.t 8), (.t 10)]⟩,⟨some 12,none,.lit false 3 1 [(.c (.int .i64 4)), (.c (.int .i64 5))]⟩,⟨some 13,none,.build [(.int .i64 0), (.int .i64 0)] [(0, 1, (.c (.int .i64 1))), (1, 1, (.c (.int .i64 11)))]⟩,⟨some 14,none,.build [(.int .i64 0), (.int .i64 0)] [(0, 1, (.c (.int .i64 2))), (1, 1, (.c (.int .i64 22)))]⟩,⟨some 15,none,.build [(.int .i64 0), (.int .i64 0)] [(0, 1, (.c (.int .i64 3))), (1, 1, (.c (.int .i64 30)))]⟩,⟨some 16,none,.lit false 72 2 [(.t 13), (.t 14), (.t 15)]⟩,⟨some 17,none,.build [(.int .i64 0), (.sl [] .tight), (.sl [] .tight)] [(0, 1, (.c (.int .i64 1))), (1, 1, (.t 12)), (2, 1, (.t 16))]⟩,⟨some 18,none,.lit false 3 1 [(.c (.int .i64 6))]⟩,⟨some 19,none,.build [(.int .i64 0), (.int .i64 0)] [(0, 1, (.c (.int .i64 1))), (1, 1, (.c (.int .i64 11)))]⟩,⟨some 20,none,.build [(.int .i64 0), (.int .i64 0)] [(0, 1, (.c (.int .i64 3))), (1, 1, (.c (.int .i64 33)))]⟩,⟨some 21,none,.lit false 72 2 [(.t 19), (.t 20)]⟩,⟨some 22,none,.build [(.int .i64 0), (.sl [] .tight), (.sl [] .tight)] [(0, 1, (.c (.int .i64 2))), (1, 1, (.t 18)), (2, 1, (.t 21))]⟩,⟨some 23,none,.lit false 51 3 [(.t 17), (.t 22)]⟩,⟨some 24,none,.lit false 3 1 [(.c (.int .i64 4)), (.c (.int .i64 5))]⟩,⟨some 25,none,.build [(.int .i64 0), (.int .i64 0), (.sl [] .tight), (.int .i64 0), (.int .i64 0)] [(0, 1, (.c (.int .i64 1))), (1, 1, (.c (.int .i64 7))), (2, 1, (.t 24)), (3, 1, (.c (.int .i64 100))), (4, 1, (.c (.int .i64 250)))]⟩,⟨some 26,none,.lit false 3 1 [(.c (.int .i64 4)), (.c (.int .i64 5)), (.c (.int .i64 6))]⟩,⟨some 27,none,.build [(.int .i64 0), (.int .i64 0), (.sl [] .tight), (.int .i64 0), (.int .i64 0)] [(0, 1, (.c (.int .i64 2))), (1, 1, (.c (.int .i64 7))), (2, 1, (.t 26)), (3, 1, (.c (.int .i64 240))), (4, 1, (.c (.int .i64 400)))]⟩,⟨some 28,none,.lit false 3 1 [(.c (.int .i64 4))]⟩,⟨some 29,none,.build [(.int .i64 0), (.int .i64 0), (.sl [] .tight), (.int .i64 0), (.int .i64 0)] [(0, 1, (.c (.int .i64 3))), (1, 1, (.c (.int .i64 8))), (2, 1, (.t 28)), (4, 1, (.c (.int .i64 999)))]⟩,⟨some 30,none,.lit false 37 5 [(.t 25), (.t 27), (.t 29)]⟩,⟨some 31,none,.build [(.sl [] .tight), (.sl [] .tight), (.sl [] .tight), (.sl [] .tight), (.sl [] .tight)] [(0, 1, (.t 4)), (1, 1, (.t 11)), (2, 1, (.t 23)), (3, 1, (.t 30))]⟩,⟨none,none,.store (.t 0) (.t 31) 5⟩])
 (.ret))
def r42 : List Res := [.cell 0 (some 5)]
def a42 : AFn := ⟨0, c42, r42,.v⟩
def c43 : ACode := .seq (.region [⟨some 4,none,.box (.t 0) 5⟩,⟨some 8,none,.new (.agg [(.int .i64 0), (.int .i64 0), (.int .i64 0), (.int .i64 0), (.int .i64 0), (.bool false), (.sl [] .tight), (.sl [] .tight), (.sl [] .tight), (.sl [] .tight), (.sl [] .tight), (.sl [] .tight)]) 12⟩,⟨some 9,none,.mov (.c (.int .i64 0))⟩])
 (.seq (.region [⟨some 13,none,.load (.t 4) (some 5)⟩,⟨some 14,none,.mov (.t 1)⟩,⟨some 15,none,.mov (.t 2)⟩,⟨some 16,none,.call 54 [(.t 13), (.t 14), (.t 15)]⟩,⟨some 12,none,.mov (.t 16)⟩,⟨some 17,none,.ext (.t 12) 0⟩,⟨some 18,none,.ext (.t 12) 1⟩,⟨some 10,none,.new (.agg [(.int .i64 0), (.int .i64 0), (.int .i64 0), (.int .i64 0), (.int .i64 0), (.bool false), (.sl [] .tight), (.sl [] .tight), (.sl [] .tight), (.sl [] .tight), (.sl [] .tight), (.sl [] .tight)]) 12⟩,⟨none,none,.store (.t 10) (.t 17) 12⟩,⟨some 11,none,.mov (.t 18)⟩])
 (.seq (.seq (.region [⟨some 19,none,.mov (.t 11)⟩,⟨some 20,none,.bin .eql (.t 19) (.c (.int .i64 0))⟩,⟨some 21,none,.mov (.t 20)⟩,⟨some 22, some (21, true),.mov (.t 3)⟩,⟨some 23, some (21, true),.call 68 [(.t 22)]⟩,⟨some 24, some (21, true),.not (.t 23)⟩,⟨some 25,none,.pick (.t 21) (.t 24) (.c (.bool false))⟩])
 (.cond (.t 25) (.seq (.region [⟨some 26,none,.build [(.int .i64 0), (.int .i64 0), (.int .i64 0), (.int .i64 0), (.int .i64 0), (.bool false), (.sl [] .tight), (.sl [] .tight), (.sl [] .tight), (.sl [] .tight), (.sl [] .tight), (.sl [] .tight)] []⟩,⟨none,none,.store (.t 8) (.t 26) 12⟩,⟨some 9,none,.mov (.c (.int .i64 1))⟩])
 (.ret))
 (.skip)))
 (.seq (.region [⟨some 27,none,.load (.t 10) (some 12)⟩,⟨some 28,none,.mov (.t 11)⟩,⟨none,none,.store (.t 8) (.t 27) 12⟩,⟨some 9,none,.mov (.t 28)⟩])
 (.ret))))
def r43 : List Res := [.cell 8 (some 12),.t 9]
def a43 : AFn := ⟨4, c43, r43,.v⟩
def c44 : ACode := .seq (.region [⟨some 2,none,.box (.t 0) 12⟩,⟨some 4,none,.mov (.c (.int .i64 0))⟩,⟨some 5,none,.mov (.c (.int .i64 0))⟩])
 (.seq (.block 0 (.seq (.region [⟨some 10,none,.load (.t 2) (some 12)⟩,⟨some 11,none,.mov (.t 1)⟩,⟨some 12,none,.call 58 [(.t 10), (.t 11)]⟩,⟨some 9,none,.mov (.t 12)⟩])
 (.cond (.t 9) (.seq (.region [⟨some 13,none,.mov (.t 1)⟩,⟨some 14,none,.addr (.t 2) 0⟩,⟨some 15,none,.addr (.t 14) 4⟩,⟨some 16,none,.load (.t 15) none⟩,⟨some 17,none,.bin .add (.t 13) (.t 16)⟩,⟨some 18,none,.bin .sub (.t 17) (.c (.int .i64 1))⟩,⟨some 4,none,.mov (.c (.int .i64 0))⟩,⟨some 5,none,.mov (.t 18)⟩])
 (.ret))
 (.seq (.region [⟨some 20,none,.addr (.t 2) 8⟩,⟨some 21,none,.load (.t 20) none⟩,⟨some 22,none,.len (.t 21)⟩,⟨some 23,none,.bin .gtr (.t 22) (.c (.int .i64 0))⟩,⟨some 19,none,.mov (.t 23)⟩])
 (.cond (.t 19) (.seq (.region [⟨some 24,none,.addr (.t 2) 8⟩,⟨some 25,none,.load (.t 24) none⟩,⟨some 26,none,.idx (.t 25) (.c (.int .i64 0)) 1⟩,⟨some 27,none,.load (.t 26) none⟩,⟨some 4,none,.mov (.c (.int .i64 1))⟩,⟨some 5,none,.mov (.t 27)⟩])
 (.ret))
 (.seq (.region [⟨some 29,none,.addr (.t 2) 0⟩,⟨some 30,none,.addr (.t 29) 5⟩,⟨some 31,none,.load (.t 30) none⟩,⟨some 32,none,.mov (.t 31)⟩,⟨some 33, some (32, true),.addr (.t 2) 9⟩,⟨some 34, some (32, true),.load (.t 33) none⟩,⟨some 35, some (32, true),.len (.t 34)⟩,⟨some 36, some (32, true),.bin .eql (.t 35) (.c (.int .i64 0))⟩,⟨some 37,none,.pick (.t 32) (.t 36) (.c (.bool false))⟩,⟨some 28,none,.mov (.t 37)⟩])
 (.cond (.t 28) (.seq (.region [⟨some 4,none,.mov (.c (.int .i64 2))⟩,⟨some 5,none,.mov (.c (.int .i64 (-1)))⟩])
 (.ret))
 (.seq (.region [⟨some 39,none,.addr (.t 2) 0⟩,⟨some 40,none,.addr (.t 39) 5⟩,⟨some 41,none,.load (.t 40) none⟩,⟨some 42,none,.mov (.t 41)⟩,⟨some 43, some (42, true),.addr (.t 2) 10⟩,⟨some 44, some (42, true),.load (.t 43) none⟩,⟨some 45, some (42, true),.len (.t 44)⟩,⟨some 46, some (42, true),.bin .eql (.t 45) (.c (.int .i64 0))⟩,⟨some 47,none,.pick (.t 42) (.t 46) (.c (.bool false))⟩,⟨some 38,none,.mov (.t 47)⟩])
 (.cond (.t 38) (.seq (.region [⟨some 6,none,.mov (.c (.fn 75 [] []))⟩])
 (.seq (.region [⟨some 49,none,.load (.t 2) (some 12)⟩,⟨some 50,none,.addr (.t 2) 9⟩,⟨some 51,none,.load (.t 50) none⟩,⟨some 52,none,.mov (.t 6)⟩,⟨some 53,none,.call 78 [(.t 51), (.t 52)]⟩,⟨some 54,none,.call 77 [(.t 49), (.t 53)]⟩,⟨some 48,none,.mov (.t 54)⟩,⟨some 55,none,.ext (.t 48) 0⟩,⟨some 56,none,.ext (.t 48) 1⟩,⟨some 7,none,.mov (.t 55)⟩,⟨some 8,none,.mov (.t 56)⟩])
 (.seq (.region [⟨some 57,none,.mov (.t 7)⟩,⟨some 4,none,.mov (.c (.int .i64 3))⟩,⟨some 5,none,.mov (.t 57)⟩])
 (.ret))))
 (.skip))))))))))
 (.seq (.region [⟨some 58,none,.load (.t 2) (some 12)⟩,⟨some 59,none,.mov (.t 1)⟩,⟨some 60,none,.call 79 [(.t 58), (.t 59)]⟩,⟨some 4,none,.mov (.c (.int .i64 4))⟩,⟨some 5,none,.mov (.t 60)⟩])
 (.ret)))
def r44 : List Res := [.t 4,.t 5]
def a44 : AFn := ⟨2, c44, r44,.v⟩
def c50 : ACode := .seq (.region [⟨some 2,none,.mov (.c (.bool false))⟩])
 (.seq (.region [⟨some 8,none,.mkmap .i⟩,⟨some 3,none,.mov (.t 8)⟩])
 (.seq (.seq (.region [⟨some 9,none,.mov (.t 0)⟩,⟨some 10,none,.len (.t 9)⟩,⟨some 11,none,.mov (.c (.int .i64 0))⟩])
 (.block 0 (.loop (.seq (.region [⟨some 12,none,.bin .lss (.t 11) (.t 10)⟩])
 (.seq (.cond (.t 12) (.skip)
 (.exit 0))
 (.seq (.block 1 (.seq (.region [⟨some 13,none,.idx (.t 9) (.t 11) 5⟩,⟨some 14,none,.load (.t 13) (some 5)⟩,⟨some 5,none,.new (.agg [(.int .i64 0), (.int .i64 0), (.sl [] .tight), (.int .i64 0), (.int .i64 0)]) 5⟩,⟨none,none,.store (.t 5) (.t 14) 5⟩])
 (.seq (.seq (.region [⟨some 16,none,.mov (.t 3)⟩,⟨some 17,none,.addr (.t 5) 0⟩,⟨some 18,none,.load (.t 17) none⟩,⟨some 19,none,.mget .i (.agg [(.int .i64 0), (.int .i64 0), (.sl [] .tight), (.int .i64 0), (.int .i64 0)]) true (.t 16) (.t 18)⟩,⟨some 15,none,.mov (.t 19)⟩,⟨some 20,none,.ext (.t 15) 0⟩,⟨some 21,none,.ext (.t 15) 1⟩,⟨some 6,none,.new (.agg [(.int .i64 0), (.int .i64 0), (.sl [] .tight), (.int .i64 0), (.int .i64 0)]) 5⟩,⟨none,none,.store (.t 6) (.t 20) 5⟩,⟨some 7,none,.mov (.t 21)⟩])
 (.seq (.region [⟨some 22,none,.mov (.t 7)⟩,⟨some 23,none,.mov (.t 22)⟩,⟨some 24, some (23, true),.load (.t 5) (some 5)⟩,⟨some 25, some (23, true),.load (.t 6) (some 5)⟩,⟨some 26, some (23, true),.call 81 [(.t 24), (.t 25)]⟩,⟨some 27, some (23, true),.not (.t 26)⟩,⟨some 28,none,.pick (.t 23) (.t 27) (.c (.bool false))⟩])
 (.cond (.t 28) (.seq (.region [⟨some 2,none,.mov (.c (.bool true))⟩])
 (.ret))
 (.skip))))
 (.region [⟨some 29,none,.mov (.t 3)⟩,⟨some 30,none,.addr (.t 5) 0⟩,⟨some 31,none,.load (.t 30) none⟩,⟨some 32,none,.load (.t 5) (some 5)⟩,⟨none,none,.mput .i (.t 29) (.t 31) (.t 32)⟩]))))
 (.region [⟨some 33,none,.bin .add (.t 11) (.c (.int .i64 1))⟩,⟨some 11,none,.mov (.t 33)⟩])))))))
 (.seq (.region [⟨some 2,none,.mov (.c (.bool false))⟩])
 (.ret))))
def r50 : List Res := [.t 2]
def a50 : AFn := ⟨1, c50, r50,.v⟩
def c54 : ACode := .seq (.region [⟨some 3,none,.box (.t 0) 5⟩,⟨some 6,none,.new (.agg [(.int .i64 0), (.int .i64 0), (.int .i64 0), (.int .i64 0), (.int .i64 0), (.bool false), (.sl [] .tight), (.sl [] .tight), (.sl [] .tight), (.sl [] .tight), (.sl [] .tight), (.sl [] .tight)]) 12⟩,⟨some 7,none,.mov (.c (.int .i64 0))⟩])
 (.seq (.seq (.region [⟨some 13,none,.load (.t 3) (some 5)⟩,⟨some 14,none,.call 32 [(.t 13)]⟩,⟨some 8,none,.mov (.t 14)⟩])
 (.seq (.region [⟨some 15,none,.mov (.t 8)⟩,⟨some 16,none,.bin .neq (.t 15) (.c (.int .i64 0))⟩])
 (.cond (.t 16) (.seq (.region [⟨some 17,none,.build [(.int .i64 0), (.int .i64 0), (.int .i64 0), (.int .i64 0), (.int .i64 0), (.bool false), (.sl [] .tight), (.sl [] .tight), (.sl [] .tight), (.sl [] .tight), (.sl [] .tight), (.sl [] .tight)] []⟩,⟨some 18,none,.mov (.t 8)⟩,⟨none,none,.store (.t 6) (.t 17) 12⟩,⟨some 7,none,.mov (.t 18)⟩])
 (.ret))
 (.skip))))
 (.seq (.region [⟨some 20,none,.load (.t 3) (some 5)⟩,⟨some 21,none,.mov (.t 1)⟩,⟨some 22,none,.call 94 [(.t 20), (.t 21)]⟩,⟨some 19,none,.mov (.t 22)⟩,⟨some 23,none,.ext (.t 19) 0⟩,⟨some 24,none,.ext (.t 19) 1⟩,⟨some 9,none,.new (.agg [(.int .i64 0), (.int .i64 0), (.int .i64 0), (.int .i64 0), (.int .i64 0), (.bool false), (.sl [] .tight)]) 7⟩,⟨none,none,.store (.t 9) (.t 23) 7⟩,⟨some 10,none,.mov (.t 24)⟩])
 (.seq (.region [⟨some 26,none,.load (.t 3) (some 5)⟩,⟨some 27,none,.mov (.t 2)⟩,⟨some 28,none,.call 67 [(.t 26), (.t 27)]⟩,⟨some 25,none,.mov (.t 28)⟩,⟨some 29,none,.ext (.t 25) 0⟩,⟨some 30,none,.ext (.t 25) 1⟩,⟨some 11,none,.new (.agg [(.int .i64 0), (.sl [] .tight), (.sl [] .tight)]) 3⟩,⟨none,none,.store (.t 11) (.t 29) 3⟩,⟨some 12,none,.mov (.t 30)⟩])
 (.seq (.seq (.region [⟨some 31,none,.mov (.t 10)⟩,⟨some 32,none,.not (.t 31)⟩,⟨some 33,none,.mov (.t 32)⟩,⟨some 34, some (33, false),.mov (.t 12)⟩,⟨some 35, some (33, false),.not (.t 34)⟩,⟨some 36,none,.pick (.t 33) (.c (.bool true)) (.t 35)⟩])
 (.cond (.t 36) (.seq (.region [⟨some 37,none,.build [(.int .i64 0), (.int .i64 0), (.int .i64 0), (.int .i64 0), (.int .i64 0), (.bool false), (.sl [] .tight), (.sl [] .tight), (.sl [] .tight), (.sl [] .tight), (.sl [] .tight), (.sl [] .tight)] []⟩,⟨none,none,.store (.t 6) (.t 37) 12⟩,⟨some 7,none,.mov (.c (.int .i64 1))⟩])
 (.ret))
 (.skip)))
 (.seq (.region [⟨some 38,none,.load (.t 3) (some 5)⟩,⟨some 39,none,.load (.t 9) (some 7)⟩,⟨some 40,none,.load (.t 11) (some 3)⟩,⟨some 41,none,.call 71 [(.t 38), (.t 39), (.t 40)]⟩,⟨none,none,.store (.t 6) (.t 41) 12⟩,⟨some 7,none,.mov (.c (.int .i64 0))⟩])
 (.ret))))))
def r54 : List Res := [.cell 6 (some 12),.t 7]
def a54 : AFn := ⟨3, c54, r54,.v⟩
def c55 : ACode := .seq (.region [⟨some 1,none,.box (.t 0) 5⟩,⟨some 2,none,.mov (.c (.bool false))⟩])
 (.seq (.seq (.region [⟨some 11,none,.addr (.t 1) 0⟩,⟨some 12,none,.load (.t 11) none⟩,⟨some 13,none,.len (.t 12)⟩,⟨some 14,none,.bin .gtr (.t 13) (.c (.int .i64 12))⟩,⟨some 15,none,.mov (.t 14)⟩,⟨some 16, some (15, false),.addr (.t 1) 1⟩,⟨some 17, some (15, false),.load (.t 16) none⟩,⟨some 18, some (15, false),.len (.t 17)⟩,⟨some 19, some (15, false),.bin .gtr (.t 18) (.c (.int .i64 8))⟩,⟨some 20,none,.pick (.t 15) (.c (.bool true)) (.t 19)⟩,⟨some 21,none,.mov (.t 20)⟩,⟨some 22, some (21, false),.addr (.t 1) 2⟩,⟨some 23, some (21, false),.load (.t 22) none⟩,⟨some 24, some (21, false),.len (.t 23)⟩,⟨some 25, some (21, false),.bin .gtr (.t 24) (.c (.int .i64 6))⟩,⟨some 26,none,.pick (.t 21) (.c (.bool true)) (.t 25)⟩,⟨some 27,none,.mov (.t 26)⟩,⟨some 28, some (27, false),.addr (.t 1) 3⟩,⟨some 29, some (27, false),.load (.t 28) none⟩,⟨some 30, some (27, false),.len (.t 29)⟩,⟨some 31, some (27, false),.bin .gtr (.t 30) (.c (.int .i64 20))⟩,⟨some 32,none,.pick (.t 27) (.c (.bool true)) (.t 31)⟩,⟨some 33,none,.mov (.t 32)⟩,⟨some 34, some (33, false),.addr (.t 1) 4⟩,⟨some 35, some (33, false),.load (.t 34) none⟩,⟨some 36, some (33, false),.len (.t 35)⟩,⟨some 37, some (33, false),.bin .gtr (.t 36) (.c (.int .i64 20))⟩,⟨some 38,none,.pick (.t 33) (.c (.bool true)) (.t 37)⟩,⟨some 39,none,.mov (.t 38)⟩,⟨some 40, some (39, false),.addr (.t 1) 0⟩,⟨some 41, some (39, false),.load (.t 40) none⟩,⟨some 42, some (39, false),.call 95 [(.t 41)]⟩,⟨some 43, some (39, false),.not (.t 42)⟩,⟨some 44,none,.pick (.t 39) (.c (.bool true)) (.t 43)⟩])
 (.cond (.t 44) (.seq (.region [⟨some 2,none,.mov (.c (.bool false))⟩])
 (.ret))
 (.skip)))
 (.seq (.seq (.region [⟨some 3,none,.mov (.c (.int .i64 0))⟩])
 (.block 0 (.loop (.seq (.seq (.region [⟨some 45,none,.mov (.t 3)⟩,⟨some 46,none,.addr (.t 1) 1⟩,⟨some 47,none,.load (.t 46) none⟩,⟨some 48,none,.len (.t 47)⟩,⟨some 49,none,.bin .lss (.t 45) (.t 48)⟩])
 (.cond (.t 49) (.skip)
 (.exit 0)))
 (.seq (.block 1 (.seq (.seq (.region [⟨some 52,none,.addr (.t 1) 0⟩,⟨some 53,none,.load (.t 52) none⟩,⟨some 54,none,.addr (.t 1) 1⟩,⟨some 55,none,.load (.t 54) none⟩,⟨some 56,none,.mov (.t 3)⟩,⟨some 57,none,.idx (.t 55) (.t 56) 7⟩,⟨some 58,none,.load (.t 57) (some 7)⟩,⟨some 59,none,.call 96 [(.t 53), (.t 58)]⟩,⟨some 60,none,.not (.t 59)⟩])
 (.cond (.t 60) (.seq (.region [⟨some 2,none,.mov (.c (.bool false))⟩])
 (.ret))
 (.skip)))
 (.seq (.region [⟨some 4,none,.mov (.c (.int .i64 0))⟩])
 (.block 2 (.loop (.seq (.seq (.region [⟨some 61,none,.mov (.t 4)⟩,⟨some 62,none,.mov (.t 3)⟩,⟨some 63,none,.bin .lss (.t 61) (.t 62)⟩])
 (.cond (.t 63) (.skip)
 (.exit 2)))
 (.seq (.block 3 (.seq (.region [⟨some 66,none,.addr (.t 1) 1⟩,⟨some 67,none,.load (.t 66) none⟩,⟨some 68,none,.mov (.t 4)⟩,⟨some 69,none,.idx (.t 67) (.t 68) 7⟩,⟨some 70,none,.addr (.t 69) 0⟩,⟨some 71,none,.load (.t 70) none⟩,⟨some 72,none,.addr (.t 1) 1⟩,⟨some 73,none,.load (.t 72) none⟩,⟨some 74,none,.mov (.t 3)⟩,⟨some 75,none,.idx (.t 73) (.t 74) 7⟩,⟨some 76,none,.addr (.t 75) 0⟩,⟨some 77,none,.load (.t 76) none⟩,⟨some 78,none,.bin .eql (.t 71) (.t 77)⟩])
 (.cond (.t 78) (.seq (.region [⟨some 2,none,.mov (.c (.bool false))⟩])
 (.ret))
 (.skip))))
 (.region [⟨some 64,none,.mov (.t 4)⟩,⟨some 65,none,.bin .add (.t 64) (.c (.int .i64 1))⟩,⟨some 4,none,.mov (.t 65)⟩]))))))))
 (.region [⟨some 50,none,.mov (.t 3)⟩,⟨some 51,none,.bin .add (.t 50) (.c (.int .i64 1))⟩,⟨some 3,none,.mov (.t 51)⟩]))))))
 (.seq (.seq (.region [⟨some 5,none,.mov (.c (.int .i64 0))⟩])
 (.block 4 (.loop (.seq (.seq (.region [⟨some 79,none,.mov (.t 5)⟩,⟨some 80,none,.addr (.t 1) 2⟩,⟨some 81,none,.load (.t 80) none⟩,⟨some 82,none,.len (.t 81)⟩,⟨some 83,none,.bin .lss (.t 79) (.t 82)⟩])
 (.cond (.t 83) (.skip)
 (.exit 4)))
 (.seq (.block 5 (.seq (.region [⟨some 86,none,.addr (.t 1) 2⟩,⟨some 87,none,.load (.t 86) none⟩,⟨some 88,none,.mov (.t 5)⟩,⟨some 89,none,.idx (.t 87) (.t 88) 3⟩,⟨some 90,none,.load (.t 89) (some 3)⟩,⟨some 6,none,.new (.agg [(.int .i64 0), (.sl [] .tight), (.sl [] .tight)]) 3⟩,⟨none,none,.store (.t 6) (.t 90) 3⟩])
 (.seq (.seq (.region [⟨some 91,none,.addr (.t 6) 0⟩,⟨some 92,none,.load (.t 91) none⟩,⟨some 93,none,.call 73 [(.t 92), (.c (.int .i64 0)), (.c (.int .i64 99))]⟩,⟨some 94,none,.not (.t 93)⟩,⟨some 95,none,.mov (.t 94)⟩,⟨some 96, some (95, false),.addr (.t 6) 1⟩,⟨some 97, some (95, false),.load (.t 96) none⟩,⟨some 98, some (95, false),.len (.t 97)⟩,⟨some 99, some (95, false),.call 73 [(.t 98), (.c (.int .i64 1)), (.c (.int .i64 6))]⟩,⟨some 100, some (95, false),.not (.t 99)⟩,⟨some 101,none,.pick (.t 95) (.c (.bool true)) (.t 100)⟩,⟨some 102,none,.mov (.t 101)⟩,⟨some 103, some (102, false),.addr (.t 6) 1⟩,⟨some 104, some (102, false),.load (.t 103) none⟩,⟨some 105, some (102, false),.call 97 [(.t 104)]⟩,⟨some 106, some (102, false),.not (.t 105)⟩,⟨some 107,none,.pick (.t 102) (.c (.bool true)) (.t 106)⟩,⟨some 108,none,.mov (.t 107)⟩,⟨some 109, some (108, false),.addr (.t 6) 2⟩,⟨some 110, some (108, false),.load (.t 109) none⟩,⟨some 111, some (108, false),.len (.t 110)⟩,⟨some 112, some (108, false),.bin .gtr (.t 111) (.c (.int .i64 20))⟩,⟨some 113,none,.pick (.t 108) (.c (.bool true)) (.t 112)⟩,⟨some 114,none,.mov (.t 113)⟩,⟨some 115, some (114, false),.addr (.t 6) 2⟩,⟨some 116, some (114, false),.load (.t 115) none⟩,⟨some 117, some (114, false),.call 95 [(.t 116)]⟩,⟨some 118, some (114, false),.not (.t 117)⟩,⟨some 119,none,.pick (.t 114) (.c (.bool true)) (.t 118)⟩])
 (.cond (.t 119) (.seq (.region [⟨some 2,none,.mov (.c (.bool false))⟩])
 (.ret))
 (.skip)))
 (.seq (.region [⟨some 7,none,.mov (.c (.int .i64 0))⟩])
 (.block 6 (.loop (.seq (.seq (.region [⟨some 120,none,.mov (.t 7)⟩,⟨some 121,none,.mov (.t 5)⟩,⟨some 122,none,.bin .lss (.t 120) (.t 121)⟩])
 (.cond (.t 122) (.skip)
 (.exit 6)))
 (.seq (.block 7 (.seq (.region [⟨some 125,none,.addr (.t 1) 2⟩,⟨some 126,none,.load (.t 125) none⟩,⟨some 127,none,.mov (.t 7)⟩,⟨some 128,none,.idx (.t 126) (.t 127) 3⟩,⟨some 129,none,.addr (.t 128) 0⟩,⟨some 130,none,.load (.t 129) none⟩,⟨some 131,none,.addr (.t 6) 0⟩,⟨some 132,none,.load (.t 131) none⟩,⟨some 133,none,.bin .eql (.t 130) (.t 132)⟩])
 (.cond (.t 133) (.seq (.region [⟨some 2,none,.mov (.c (.bool false))⟩])
 (.ret))
 (.skip))))
 (.region [⟨some 123,none,.mov (.t 7)⟩,⟨some 124,none,.bin .add (.t 123) (.c (.int .i64 1))⟩,⟨some 7,none,.mov (.t 124)⟩])))))))))
 (.region [⟨some 84,none,.mov (.t 5)⟩,⟨some 85,none,.bin .add (.t 84) (.c (.int .i64 1))⟩,⟨some 5,none,.mov (.t 85)⟩]))))))
 (.seq (.seq (.region [⟨some 8,none,.mov (.c (.int .i64 0))⟩])
 (.block 8 (.loop (.seq (.seq (.region [⟨some 134,none,.mov (.t 8)⟩,⟨some 135,none,.addr (.t 1) 3⟩,⟨some 136,none,.load (.t 135) none⟩,⟨some 137,none,.len (.t 136)⟩,⟨some 138,none,.bin .lss (.t 134) (.t 137)⟩])
 (.cond (.t 138) (.skip)
 (.exit 8)))
 (.seq (.block 9 (.seq (.region [⟨some 141,none,.addr (.t 1) 3⟩,⟨some 142,none,.load (.t 141) none⟩,⟨some 143,none,.mov (.t 8)⟩,⟨some 144,none,.idx (.t 142) (.t 143) 5⟩,⟨some 145,none,.load (.t 144) (some 5)⟩,⟨some 9,none,.new (.agg [(.int .i64 0), (.int .i64 0), (.sl [] .tight), (.int .i64 0), (.int .i64 0)]) 5⟩,⟨none,none,.store (.t 9) (.t 145) 5⟩])
 (.seq (.region [⟨some 146,none,.addr (.t 9) 0⟩,⟨some 147,none,.load (.t 146) none⟩,⟨some 148,none,.call 73 [(.t 147), (.c (.int .i64 0)), (.c (.int .i64 99))]⟩,⟨some 149,none,.not (.t 148)⟩,⟨some 150,none,.mov (.t 149)⟩,⟨some 151, some (150, false),.addr (.t 9) 1⟩,⟨some 152, some (150, false),.load (.t 151) none⟩,⟨some 153, some (150, false),.call 73 [(.t 152), (.c (.int .i64 0)), (.c (.int .i64 99))]⟩,⟨some 154, some (150, false),.not (.t 153)⟩,⟨some 155,none,.pick (.t 150) (.c (.bool true)) (.t 154)⟩,⟨some 156,none,.mov (.t 155)⟩,⟨some 157, some (156, false),.addr (.t 9) 2⟩,⟨some 158, some (156, false),.load (.t 157) none⟩,⟨some 159, some (156, false),.len (.t 158)⟩,⟨some 160, some (156, false),.bin .gtr (.t 159) (.c (.int .i64 12))⟩,⟨some 161,none,.pick (.t 156) (.c (.bool true)) (.t 160)⟩,⟨some 162,none,.mov (.t 161)⟩,⟨some 163, some (162, false),.addr (.t 9) 2⟩,⟨some 164, some (162, false),.load (.t 163) none⟩,⟨some 165, some (162, false),.call 97 [(.t 164)]⟩,⟨some 166, some (162, false),.not (.t 165)⟩,⟨some 167,none,.pick (.t 162) (.c (.bool true)) (.t 166)⟩,⟨some 168,none,.mov (.t 167)⟩,⟨some 169, some (168, false),.addr (.t 9) 3⟩,⟨some 170, some (168, false),.load (.t 169) none⟩,⟨some 171, some (168, false),.bin .lss (.t 170) (.c (.int .i64 0))⟩,⟨some 172,none,.pick (.t 168) (.c (.bool true)) (.t 171)⟩,⟨some 173,none,.mov (.t 172)⟩,⟨some 174, some (173, false),.addr (.t 9) 3⟩,⟨some 175, some (173, false),.load (.t 174) none⟩,⟨some 176, some (173, false),.addr (.t 9) 4⟩,⟨some 177, some (173, false),.load (.t 176) none⟩,⟨some 178, some (173, false),.bin .gtr (.t 175) (.t 177)⟩,⟨some 179,none,.pick (.t 173) (.c (.bool true)) (.t 178)⟩,⟨some 180,none,.mov (.t 179)⟩,⟨some 181, some (180, false),.addr (.t 9) 4⟩,⟨some 182, some (180, false),.load (.t 181) none⟩,⟨some 183, some (180, false),.bin .gtr (.t 182) (.c (.int .i64 9999))⟩,⟨some 184,none,.pick (.t 180) (.c (.bool true)) (.t 183)⟩])
 (.cond (.t 184) (.seq (.region [⟨some 2,none,.mov (.c (.bool false))⟩])
 (.ret))
 (.skip)))))
 (.region [⟨some 139,none,.mov (.t 8)⟩,⟨some 140,none,.bin .add (.t 139) (.c (.int .i64 1))⟩,⟨some 8,none,.mov (.t 140)⟩]))))))
 (.seq (.seq (.region [⟨some 10,none,.mov (.c (.int .i64 0))⟩])
 (.block 10 (.loop (.seq (.seq (.region [⟨some 185,none,.mov (.t 10)⟩,⟨some 186,none,.addr (.t 1) 4⟩,⟨some 187,none,.load (.t 186) none⟩,⟨some 188,none,.len (.t 187)⟩,⟨some 189,none,.bin .lss (.t 185) (.t 188)⟩])
 (.cond (.t 189) (.skip)
 (.exit 10)))
 (.seq (.block 11 (.seq (.region [⟨some 192,none,.addr (.t 1) 4⟩,⟨some 193,none,.load (.t 192) none⟩,⟨some 194,none,.mov (.t 10)⟩,⟨some 195,none,.idx (.t 193) (.t 194) 1⟩,⟨some 196,none,.load (.t 195) none⟩,⟨some 197,none,.call 73 [(.t 196), (.c (.int .i64 0)), (.c (.int .i64 99))]⟩,⟨some 198,none,.not (.t 197)⟩])
 (.cond (.t 198) (.seq (.region [⟨some 2,none,.mov (.c (.bool false))⟩])
 (.ret))
 (.skip))))
 (.region [⟨some 190,none,.mov (.t 10)⟩,⟨some 191,none,.bin .add (.t 190) (.c (.int .i64 1))⟩,⟨some 10,none,.mov (.t 191)⟩]))))))
 (.seq (.region [⟨some 2,none,.mov (.c (.bool true))⟩])
 (.ret)))))))
def r55 : List Res := [.t 2]
def a55 : AFn := ⟨1, c55, r55,.v⟩
def c56 : ACode := .seq (.region [⟨some 2,none,.mov (.c (.bool false))⟩])
 (.seq (.seq (.region [⟨some 3,none,.mov (.c (.int .i64 0))⟩])
 (.block 0 (.loop (.seq (.seq (.region [⟨some 5,none,.mov (.t 3)⟩,⟨some 6,none,.mov (.t 0)⟩,⟨some 7,none,.len (.t 6)⟩,⟨some 8,none,.bin .lss (.t 5) (.t 7)⟩])
 (.cond (.t 8) (.skip)
 (.exit 0)))
 (.seq (.block 1 (.seq (.region [⟨some 4,none,.mov (.c (.int .i64 0))⟩])
 (.block 2 (.loop (.seq (.seq (.region [⟨some 11,none,.mov (.t 4)⟩,⟨some 12,none,.mov (.t 3)⟩,⟨some 13,none,.bin .lss (.t 11) (.t 12)⟩])
 (.cond (.t 13) (.skip)
 (.exit 2)))
 (.seq (.block 3 (.seq (.region [⟨some 16,none,.mov (.t 0)⟩,⟨some 17,none,.mov (.t 4)⟩,⟨some 18,none,.idx (.t 16) (.t 17) 5⟩,⟨some 19,none,.addr (.t 18) 0⟩,⟨some 20,none,.load (.t 19) none⟩,⟨some 21,none,.mov (.t 0)⟩,⟨some 22,none,.mov (.t 3)⟩,⟨some 23,none,.idx (.t 21) (.t 22) 5⟩,⟨some 24,none,.addr (.t 23) 0⟩,⟨some 25,none,.load (.t 24) none⟩,⟨some 26,none,.bin .eql (.t 20) (.t 25)⟩,⟨some 27,none,.mov (.t 26)⟩,⟨some 28, some (27, true),.mov (.t 0)⟩,⟨some 29, some (27, true),.mov (.t 4)⟩,⟨some 30, some (27, true),.idx (.t 28) (.t 29) 5⟩,⟨some 31, some (27, true),.load (.t 30) (some 5)⟩,⟨some 32, some (27, true),.mov (.t 0)⟩,⟨some 33, some (27, true),.mov (.t 3)⟩,⟨some 34, some (27, true),.idx (.t 32) (.t 33) 5⟩,⟨some 35, some (27, true),.load (.t 34) (some 5)⟩,⟨some 36, some (27, true),.call 93 [(.t 31), (.t 35)]⟩,⟨some 37, some (27, true),.not (.t 36)⟩,⟨some 38,none,.pick (.t 27) (.t 37) (.c (.bool false))⟩])
 (.cond (.t 38) (.seq (.region [⟨some 2,none,.mov (.c (.bool true))⟩])
 (.ret))
 (.skip))))
 (.region [⟨some 14,none,.mov (.t 4)⟩,⟨some 15,none,.bin .add (.t 14) (.c (.int .i64 1))⟩,⟨some 4,none,.mov (.t 15)⟩])))))))
 (.region [⟨some 9,none,.mov (.t 3)⟩,⟨some 10,none,.bin .add (.t 9) (.c (.int .i64 1))⟩,⟨some 3,none,.mov (.t 10)⟩]))))))
 (.seq (.region [⟨some 2,none,.mov (.c (.bool false))⟩])
 (.ret)))
def r56 : List Res := [.t 2]
def a56 : AFn := ⟨1, c56, r56,.v⟩
def c57 : ACode := .seq (.region [⟨some 3,none,.box (.t 0) 2⟩,⟨some 4,none,.mov (.c (.bool false))⟩])
 (.seq (.region [⟨some 5,none,.load (.t 1) (some 12)⟩,⟨some 6,none,.addr (.t 3) 0⟩,⟨some 7,none,.load (.t 6) none⟩,⟨some 8,none,.load (.t 2) none⟩,⟨some 9,none,.mnx true (.t 7) (.t 8)⟩,⟨some 10,none,.call 58 [(.t 5), (.t 9)]⟩,⟨some 4,none,.mov (.t 10)⟩])
 (.ret))
def r57 : List Res := [.t 4]
def a57 : AFn := ⟨3, c57, r57,.v⟩
def c58 : ACode := .seq (.region [⟨some 2,none,.box (.t 0) 12⟩,⟨some 4,none,.mov (.c (.bool false))⟩])
 (.seq (.region [⟨some 5,none,.addr (.t 2) 8⟩,⟨some 6,none,.load (.t 5) none⟩,⟨some 7,none,.len (.t 6)⟩,⟨some 8,none,.bin .eql (.t 7) (.c (.int .i64 0))⟩,⟨some 9,none,.mov (.t 8)⟩,⟨some 10, some (9, true),.mov (.t 1)⟩,⟨some 11, some (9, true),.addr (.t 2) 0⟩,⟨some 12, some (9, true),.addr (.t 11) 4⟩,⟨some 13, some (9, true),.load (.t 12) none⟩,⟨some 14, some (9, true),.bin .add (.t 10) (.t 13)⟩,⟨some 15, some (9, true),.load (.t 2) (some 12)⟩,⟨some 16, some (9, true),.mov (.t 1)⟩,⟨some 17, some (9, true),.call 79 [(.t 15), (.t 16)]⟩,⟨some 18, some (9, true),.bin .leq (.t 14) (.t 17)⟩,⟨some 19,none,.pick (.t 9) (.t 18) (.c (.bool false))⟩,⟨some 4,none,.mov (.t 19)⟩])
 (.ret))
def r58 : List Res := [.t 4]
def a58 : AFn := ⟨2, c58, r58,.v⟩
def c59 : ACode := .seq (.region [⟨some 4,none,.new (.agg [(.int .i64 0), (.int .i64 0)]) 2⟩,⟨some 5,none,.mov (.c (.bool false))⟩])
 (.seq (.seq (.region [⟨some 9,none,.mov (.t 0)⟩,⟨some 10,none,.len (.t 9)⟩,⟨some 11,none,.mov (.c (.int .i64 0))⟩])
 (.block 0 (.loop (.seq (.region [⟨some 12,none,.bin .lss (.t 11) (.t 10)⟩])
 (.seq (.cond (.t 12) (.skip)
 (.exit 0))
 (.seq (.block 1 (.seq (.region [⟨some 13,none,.idx (.t 9) (.t 11) 2⟩,⟨some 14,none,.load (.t 13) (some 2)⟩,⟨some 7,none,.new (.agg [(.int .i64 0), (.int .i64 0)]) 2⟩,⟨none,none,.store (.t 7) (.t 14) 2⟩])
 (.seq (.region [⟨some 15,none,.mov (.t 1)⟩,⟨some 16,none,.load (.t 7) (some 2)⟩,⟨some 17,none,.callv (.t 15) [(.t 16)]⟩])
 (.cond (.t 17) (.seq (.region [⟨some 18,none,.load (.t 7) (some 2)⟩,⟨none,none,.store (.t 4) (.t 18) 2⟩,⟨some 5,none,.mov (.c (.bool true))⟩])
 (.ret))
 (.skip)))))
 (.region [⟨some 19,none,.bin .add (.t 11) (.c (.int .i64 1))⟩,⟨some 11,none,.mov (.t 19)⟩])))))))
 (.seq (.region [⟨some 8,none,.new (.agg [(.int .i64 0), (.int .i64 0)]) 2⟩])
 (.seq (.region [⟨some 20,none,.load (.t 8) (some 2)⟩,⟨none,none,.store (.t 4) (.t 20) 2⟩,⟨some 5,none,.mov (.c (.bool false))⟩])
 (.ret))))
def r59 : List Res := [.cell 4 (some 2),.t 5]
def a59 : AFn := ⟨2, c59, r59,.r⟩
def c60 : ACode := .seq (.region [⟨some 2,none,.box (.t 0) 12⟩,⟨some 4,none,.mov (.c (.int .i64 0))⟩])
 (.seq (.seq (.region [⟨some 7,none,.addr (.t 2) 0⟩,⟨some 8,none,.addr (.t 7) 5⟩,⟨some 9,none,.load (.t 8) none⟩,⟨some 10,none,.not (.t 9)⟩])
 (.cond (.t 10) (.seq (.region [⟨some 4,none,.mov (.c (.int .i64 0))⟩])
 (.ret))
 (.skip)))
 (.seq (.region [⟨some 5,none,.mov (.c (.int .i64 0))⟩])
 (.seq (.seq (.region [⟨some 11,none,.mov (.t 1)⟩,⟨some 6,none,.mov (.t 11)⟩])
 (.block 0 (.loop (.seq (.seq (.region [⟨some 12,none,.mov (.t 6)⟩,⟨some 13,none,.mov (.t 1)⟩,⟨some 14,none,.addr (.t 2) 0⟩,⟨some 15,none,.addr (.t 14) 4⟩,⟨some 16,none,.load (.t 15) none⟩,⟨some 17,none,.bin .add (.t 13) (.t 16)⟩,⟨some 18,none,.bin .lss (.t 12) (.t 17)⟩])
 (.cond (.t 18) (.skip)
 (.exit 0)))
 (.seq (.block 1 (.region [⟨some 21,none,.load (.t 2) (some 12)⟩,⟨some 22,none,.mov (.t 6)⟩,⟨some 23,none,.call 98 [(.t 21), (.t 22)]⟩,⟨some 24,none,.bin .add (.t 23) (.c (.int .i64 1))⟩,⟨some 6,none,.mov (.t 24)⟩]))
 (.region [⟨some 19,none,.mov (.t 5)⟩,⟨some 20,none,.bin .add (.t 19) (.c (.int .i64 1))⟩,⟨some 5,none,.mov (.t 20)⟩]))))))
 (.seq (.region [⟨some 25,none,.mov (.t 5)⟩,⟨some 4,none,.mov (.t 25)⟩])
 (.ret)))))
def r60 : List Res := [.t 4]
def a60 : AFn := ⟨2, c60, r60,.v⟩
def c61 : ACode := .seq (.region [⟨some 1,none,.box (.t 0) 5⟩,⟨some 2,none,.mov (.c (.bool false))⟩])
 (.seq (.region [⟨some 3,none,.addr (.t 1) 0⟩,⟨some 4,none,.load (.t 3) none⟩,⟨some 5,none,.len (.t 4)⟩,⟨some 6,none,.bin .leq (.t 5) (.c (.int .i64 12))⟩,⟨some 7,none,.mov (.t 6)⟩,⟨some 8, some (7, true),.addr (.t 1) 0⟩,⟨some 9, some (7, true),.load (.t 8) none⟩,⟨some 10, some (7, true),.call 99 [(.t 9)]⟩,⟨some 11,none,.pick (.t 7) (.t 10) (.c (.bool false))⟩,⟨some 12,none,.mov (.t 11)⟩,⟨some 13, some (12, true),.addr (.t 1) 1⟩,⟨some 14, some (12, true),.load (.t 13) none⟩,⟨some 15, some (12, true),.len (.t 14)⟩,⟨some 16, some (12, true),.bin .leq (.t 15) (.c (.int .i64 8))⟩,⟨some 17,none,.pick (.t 12) (.t 16) (.c (.bool false))⟩,⟨some 18,none,.mov (.t 17)⟩,⟨some 19, some (18, true),.addr (.t 1) 1⟩,⟨some 20, some (18, true),.load (.t 19) none⟩,⟨some 21, some (18, true),.addr (.t 1) 0⟩,⟨some 22, some (18, true),.load (.t 21) none⟩,⟨some 23, some (18, true),.call 100 [(.t 20), (.t 22)]⟩,⟨some 24,none,.pick (.t 18) (.t 23) (.c (.bool false))⟩,⟨some 25,none,.mov (.t 24)⟩,⟨some 26, some (25, true),.addr (.t 1) 2⟩,⟨some 27, some (25, true),.load (.t 26) none⟩,⟨some 28, some (25, true),.len (.t 27)⟩,⟨some 29, some (25, true),.bin .leq (.t 28) (.c (.int .i64 6))⟩,⟨some 30,none,.pick (.t 25) (.t 29) (.c (.bool false))⟩,⟨some 31,none,.mov (.t 30)⟩,⟨some 32, some (31, true),.addr (.t 1) 2⟩,⟨some 33, some (31, true),.load (.t 32) none⟩,⟨some 34, some (31, true),.call 101 [(.t 33)]⟩,⟨some 35,none,.pick (.t 31) (.t 34) (.c (.bool false))⟩,⟨some 36,none,.mov (.t 35)⟩,⟨some 37, some (36, true),.addr (.t 1) 3⟩,⟨some 38, some (36, true),.load (.t 37) none⟩,⟨some 39, some (36, true),.len (.t 38)⟩,⟨some 40, some (36, true),.bin .leq (.t 39) (.c (.int .i64 20))⟩,⟨some 41,none,.pick (.t 36) (.t 40) (.c (.bool false))⟩,⟨some 42,none,.mov (.t 41)⟩,⟨some 43, some (42, true),.addr (.t 1) 3⟩,⟨some 44, some (42, true),.load (.t 43) none⟩,⟨some 45, some (42, true),.call 102 [(.t 44)]⟩,⟨some 46,none,.pick (.t 42) (.t 45) (.c (.bool false))⟩,⟨some 47,none,.mov (.t 46)⟩,⟨some 48, some (47, true),.addr (.t 1) 4⟩,⟨some 49, some (47, true),.load (.t 48) none⟩,⟨some 50, some (47, true),.len (.t 49)⟩,⟨some 51, some (47, true),.bin .leq (.t 50) (.c (.int .i64 20))⟩,⟨some 52,none,.pick (.t 47) (.t 51) (.c (.bool false))⟩,⟨some 53,none,.mov (.t 52)⟩,⟨some 54, some (53, true),.addr (.t 1) 4⟩,⟨some 55, some (53, true),.load (.t 54) none⟩,⟨some 56, some (53, true),.call 103 [(.t 55)]⟩,⟨some 57,none,.pick (.t 53) (.t 56) (.c (.bool false))⟩,⟨some 2,none,.mov (.t 57)⟩])
 (.ret))
def r61 : List Res := [.t 2]
def a61 : AFn := ⟨1, c61, r61,.v⟩
def c67 : ACode := .seq (.region [⟨some 2,none,.box (.t 0) 5⟩,⟨some 3,none,.box (.t 1) 1⟩,⟨some 4,none,.new (.agg [(.int .i64 0), (.sl [] .tight), (.sl [] .tight)]) 3⟩,⟨some 5,none,.mov (.c (.bool false))⟩])
 (.seq (.region [⟨some 6,none,.addr (.t 2) 2⟩,⟨some 7,none,.load (.t 6) none⟩,⟨some 8,none,.clo 106 [] [(.t 3)]⟩,⟨some 9,none,.call 105 [(.t 7), (.t 8)]⟩,⟨some 10,none,.ext (.t 9) 0⟩,⟨some 11,none,.ext (.t 9) 1⟩,⟨none,none,.store (.t 4) (.t 10) 3⟩,⟨some 5,none,.mov (.t 11)⟩])
 (.ret))
def r67 : List Res := [.cell 4 (some 3),.t 5]
def a67 : AFn := ⟨2, c67, r67,.v⟩
def c68 : ACode := .seq (.region [⟨some 2,none,.mov (.c (.bool false))⟩])
 (.seq (.region [⟨some 3,none,.mov (.t 0)⟩,⟨some 4,none,.call 107 [(.t 3), (.c (.int .i64 0)), (.c (.int .i64 9999))]⟩,⟨some 2,none,.mov (.t 4)⟩])
 (.ret))
def r68 : List Res := [.t 2]
def a68 : AFn := ⟨1, c68, r68,.v⟩
def c71 : ACode := .seq (.region [⟨some 3,none,.box (.t 0) 5⟩,⟨some 4,none,.box (.t 1) 7⟩,⟨some 5,none,.box (.t 2) 3⟩,⟨some 6,none,.new (.agg [(.int .i64 0), (.int .i64 0), (.int .i64 0), (.int .i64 0), (.int .i64 0), (.bool false), (.sl [] .tight), (.sl [] .tight), (.sl [] .tight), (.sl [] .tight), (.sl [] .tight), (.sl [] .tight)]) 12⟩])
 (.seq (.region [⟨some 14,none,.load (.t 4) (some 7)⟩,⟨some 15,none,.addr (.t 5) 1⟩,⟨some 16,none,.load (.t 15) none⟩,⟨some 17,none,.build [(.int .i64 0), (.int .i64 0), (.int .i64 0), (.int .i64 0), (.int .i64 0), (.bool false), (.sl [] .tight), (.sl [] .tight), (.sl [] .tight), (.sl [] .tight), (.sl [] .tight), (.sl [] .tight)] [(0, 7, (.t 14)), (7, 1, (.t 16))]⟩,⟨some 7,none,.new (.agg [(.int .i64 0), (.int .i64 0), (.int .i64 0), (.int .i64 0), (.int .i64 0), (.bool false), (.sl [] .tight), (.sl [] .tight), (.sl [] .tight), (.sl [] .tight), (.sl [] .tight), (.sl [] .tight)]) 12⟩,⟨none,none,.store (.t 7) (.t 17) 12⟩])
 (.seq (.region [⟨some 18,none,.addr (.t 3) 0⟩,⟨some 19,none,.load (.t 18) none⟩,⟨some 20,none,.addr (.t 4) 6⟩,⟨some 21,none,.load (.t 20) none⟩,⟨some 22,none,.addr (.t 5) 2⟩,⟨some 23,none,.load (.t 22) none⟩,⟨some 24,none,.call 110 [(.t 19), (.t 21), (.t 23)]⟩,⟨some 25,none,.addr (.t 7) 8⟩,⟨none,none,.store (.t 25) (.t 24) 1⟩])
 (.seq (.seq (.region [⟨some 26,none,.addr (.t 3) 3⟩,⟨some 27,none,.load (.t 26) none⟩,⟨some 28,none,.len (.t 27)⟩,⟨some 29,none,.mov (.c (.int .i64 0))⟩])
 (.block 0 (.loop (.seq (.region [⟨some 30,none,.bin .lss (.t 29) (.t 28)⟩])
 (.seq (.cond (.t 30) (.skip)
 (.exit 0))
 (.seq (.block 1 (.seq (.region [⟨some 31,none,.idx (.t 27) (.t 29) 5⟩,⟨some 32,none,.load (.t 31) (some 5)⟩,⟨some 9,none,.new (.agg [(.int .i64 0), (.int .i64 0), (.sl [] .tight), (.int .i64 0), (.int .i64 0)]) 5⟩,⟨none,none,.store (.t 9) (.t 32) 5⟩])
 (.seq (.region [⟨some 33,none,.addr (.t 9) 1⟩,⟨some 34,none,.load (.t 33) none⟩,⟨some 35,none,.addr (.t 4) 0⟩,⟨some 36,none,.load (.t 35) none⟩,⟨some 37,none,.bin .eql (.t 34) (.t 36)⟩,⟨some 38,none,.mov (.t 37)⟩,⟨some 39, some (38, true),.addr (.t 3) 4⟩,⟨some 40, some (38, true),.load (.t 39) none⟩,⟨some 41, some (38, true),.addr (.t 9) 0⟩,⟨some 42, some (38, true),.load (.t 41) none⟩,⟨some 43, some (38, true),.call 111 [(.t 40), (.t 42)]⟩,⟨some 44, some (38, true),.not (.t 43)⟩,⟨some 45,none,.pick (.t 38) (.t 44) (.c (.bool false))⟩])
 (.cond (.t 45) (.region [⟨some 46,none,.addr (.t 7) 9⟩,⟨some 47,none,.load (.t 46) none⟩,⟨some 48,none,.load (.t 9) (some 5)⟩,⟨some 49,none,.lit false 37 5 [(.t 48)]⟩,⟨some 50,none,.app false (.t 47) (.t 49) 37 5 56⟩,⟨some 51,none,.addr (.t 7) 9⟩,⟨none,none,.store (.t 51) (.t 50) 1⟩])
 (.skip)))))
 (.region [⟨some 52,none,.bin .add (.t 29) (.c (.int .i64 1))⟩,⟨some 29,none,.mov (.t 52)⟩])))))))
 (.seq (.seq (.region [⟨some 53,none,.addr (.t 7) 9⟩,⟨some 54,none,.load (.t 53) none⟩,⟨some 55,none,.len (.t 54)⟩,⟨some 56,none,.mov (.c (.int .i64 0))⟩])
 (.block 2 (.loop (.seq (.region [⟨some 57,none,.bin .lss (.t 56) (.t 55)⟩])
 (.seq (.cond (.t 57) (.skip)
 (.exit 2))
 (.seq (.block 3 (.seq (.region [⟨some 58,none,.idx (.t 54) (.t 56) 5⟩,⟨some 59,none,.load (.t 58) (some 5)⟩,⟨some 11,none,.new (.agg [(.int .i64 0), (.int .i64 0), (.sl [] .tight), (.int .i64 0), (.int .i64 0)]) 5⟩,⟨none,none,.store (.t 11) (.t 59) 5⟩])
 (.seq (.region [⟨some 61,none,.load (.t 7) (some 12)⟩,⟨some 62,none,.load (.t 11) (some 5)⟩,⟨some 63,none,.call 77 [(.t 61), (.t 62)]⟩,⟨some 60,none,.mov (.t 63)⟩,⟨some 64,none,.ext (.t 60) 0⟩,⟨some 65,none,.ext (.t 60) 1⟩,⟨some 12,none,.mov (.t 64)⟩,⟨some 13,none,.mov (.t 65)⟩])
 (.seq (.region [⟨some 66,none,.mov (.t 13)⟩,⟨some 67,none,.not (.t 66)⟩])
 (.cond (.t 67) (.region [⟨some 68,none,.addr (.t 7) 10⟩,⟨some 69,none,.load (.t 68) none⟩,⟨some 70,none,.load (.t 11) (some 5)⟩,⟨some 71,none,.lit false 37 5 [(.t 70)]⟩,⟨some 72,none,.app false (.t 69) (.t 71) 37 5 56⟩,⟨some 73,none,.addr (.t 7) 10⟩,⟨none,none,.store (.t 73) (.t 72) 1⟩])
 (.skip))))))
 (.region [⟨some 74,none,.bin .add (.t 56) (.c (.int .i64 1))⟩,⟨some 56,none,.mov (.t 74)⟩])))))))
 (.seq (.region [⟨some 75,none,.load (.t 7) (some 12)⟩,⟨some 76,none,.call 112 [(.t 75)]⟩,⟨some 77,none,.addr (.t 7) 11⟩,⟨none,none,.store (.t 77) (.t 76) 1⟩])
 (.seq (.region [⟨some 78,none,.load (.t 7) (some 12)⟩,⟨none,none,.store (.t 6) (.t 78) 12⟩])
 (.ret)))))))
def r71 : List Res := [.cell 6 (some 12)]
def a71 : AFn := ⟨3, c71, r71,.v⟩
def c73 : ACode := .seq (.region [⟨some 6,none,.mov (.c (.bool false))⟩])
 (.seq (.region [⟨some 7,none,.mov (.t 0)⟩,⟨some 8,none,.mov (.t 1)⟩,⟨some 9,none,.bin .geq (.t 7) (.t 8)⟩,⟨some 10,none,.mov (.t 9)⟩,⟨some 11, some (10, true),.mov (.t 0)⟩,⟨some 12, some (10, true),.mov (.t 2)⟩,⟨some 13, some (10, true),.bin .leq (.t 11) (.t 12)⟩,⟨some 14,none,.pick (.t 10) (.t 13) (.c (.bool false))⟩,⟨some 6,none,.mov (.t 14)⟩])
 (.ret))
def r73 : List Res := [.t 6]
def a73 : AFn := ⟨3, c73, r73,.v⟩
def c75 : ACode := .seq (.region [⟨some 2,none,.box (.t 0) 5⟩,⟨some 3,none,.box (.t 1) 5⟩,⟨some 4,none,.mov (.c (.int .i64 0))⟩])
 (.seq (.region [⟨some 5,none,.addr (.t 2) 0⟩,⟨some 6,none,.load (.t 5) none⟩,⟨some 7,none,.addr (.t 3) 0⟩,⟨some 8,none,.load (.t 7) none⟩,⟨some 9,none,.call 76 [(.t 6), (.t 8)]⟩,⟨some 4,none,.mov (.t 9)⟩])
 (.ret))
def r75 : List Res := [.t 4]
def a75 : AFn := ⟨2, c75, r75,.v⟩
def c76 : ACode := .seq (.region [⟨some 4,none,.mov (.c (.int .i64 0))⟩])
 (.seq (.region [⟨some 7,none,.mov (.t 0)⟩,⟨some 8,none,.call 115 [(.t 7)]⟩,⟨some 5,none,.mov (.t 8)⟩])
 (.seq (.region [⟨some 9,none,.mov (.t 1)⟩,⟨some 10,none,.call 115 [(.t 9)]⟩,⟨some 6,none,.mov (.t 10)⟩])
 (.seq (.seq (.region [⟨some 11,none,.mov (.t 5)⟩])
 (.cond (.t 11) (.seq (.seq (.region [⟨some 12,none,.mov (.t 6)⟩])
 (.cond (.t 12) (.seq (.region [⟨some 4,none,.mov (.c (.int .i64 0))⟩])
 (.ret))
 (.skip)))
 (.seq (.region [⟨some 4,none,.mov (.c (.int .i64 (-1)))⟩])
 (.ret)))
 (.skip)))
 (.seq (.seq (.region [⟨some 13,none,.mov (.t 6)⟩])
 (.cond (.t 13) (.seq (.region [⟨some 4,none,.mov (.c (.int .i64 1))⟩])
 (.ret))
 (.skip)))
 (.seq (.seq (.region [⟨some 14,none,.mov (.t 0)⟩,⟨some 15,none,.mov (.t 1)⟩,⟨some 16,none,.bin .lss (.t 14) (.t 15)⟩])
 (.cond (.t 16) (.seq (.region [⟨some 4,none,.mov (.c (.int .i64 (-1)))⟩])
 (.ret))
 (.skip)))
 (.seq (.seq (.region [⟨some 17,none,.mov (.t 0)⟩,⟨some 18,none,.mov (.t 1)⟩,⟨some 19,none,.bin .gtr (.t 17) (.t 18)⟩])
 (.cond (.t 19) (.seq (.region [⟨some 4,none,.mov (.c (.int .i64 1))⟩])
 (.ret))
 (.skip)))
 (.seq (.region [⟨some 4,none,.mov (.c (.int .i64 0))⟩])
 (.ret))))))))
def r76 : List Res := [.t 4]
def a76 : AFn := ⟨2, c76, r76,.v⟩
def c77 : ACode := .seq (.region [⟨some 2,none,.box (.t 0) 12⟩,⟨some 3,none,.box (.t 1) 5⟩,⟨some 4,none,.mov (.c (.int .i64 0))⟩,⟨some 5,none,.mov (.c (.bool false))⟩])
 (.seq (.region [⟨some 6,none,.addr (.t 2) 7⟩,⟨some 7,none,.load (.t 6) none⟩,⟨some 8,none,.clo 117 [] [(.t 3)]⟩,⟨some 9,none,.call 116 [(.t 7), (.t 8)]⟩,⟨some 10,none,.ext (.t 9) 0⟩,⟨some 11,none,.ext (.t 9) 1⟩,⟨some 4,none,.mov (.t 10)⟩,⟨some 5,none,.mov (.t 11)⟩])
 (.ret))
def r77 : List Res := [.t 4,.t 5]
def a77 : AFn := ⟨2, c77, r77,.v⟩
def c78 : ACode := .seq (.region [⟨some 4,none,.new (.agg [(.int .i64 0), (.int .i64 0), (.sl [] .tight), (.int .i64 0), (.int .i64 0)]) 5⟩])
 (.seq (.seq (.region [⟨some 7,none,.mov (.t 0)⟩,⟨some 8,none,.len (.t 7)⟩,⟨some 9,none,.bin .lss (.t 8) (.c (.int .i64 1))⟩])
 (.cond (.t 9) (.region [⟨some 10,none,.bad⟩,⟨none,none,.bad⟩])
 (.skip)))
 (.seq (.region [⟨some 11,none,.mov (.t 0)⟩,⟨some 12,none,.idx (.t 11) (.c (.int .i64 0)) 5⟩,⟨some 13,none,.load (.t 12) (some 5)⟩,⟨some 5,none,.new (.agg [(.int .i64 0), (.int .i64 0), (.sl [] .tight), (.int .i64 0), (.int .i64 0)]) 5⟩,⟨none,none,.store (.t 5) (.t 13) 5⟩])
 (.seq (.seq (.region [⟨some 6,none,.mov (.c (.int .i64 1))⟩])
 (.block 0 (.loop (.seq (.seq (.region [⟨some 14,none,.mov (.t 6)⟩,⟨some 15,none,.mov (.t 0)⟩,⟨some 16,none,.len (.t 15)⟩,⟨some 17,none,.bin .lss (.t 14) (.t 16)⟩])
 (.cond (.t 17) (.skip)
 (.exit 0)))
 (.seq (.block 1 (.seq (.region [⟨some 20,none,.mov (.t 1)⟩,⟨some 21,none,.mov (.t 0)⟩,⟨some 22,none,.mov (.t 6)⟩,⟨some 23,none,.idx (.t 21) (.t 22) 5⟩,⟨some 24,none,.load (.t 23) (some 5)⟩,⟨some 25,none,.load (.t 5) (some 5)⟩,⟨some 26,none,.callv (.t 20) [(.t 24), (.t 25)]⟩,⟨some 27,none,.bin .lss (.t 26) (.c (.int .i64 0))⟩])
 (.cond (.t 27) (.region [⟨some 28,none,.mov (.t 0)⟩,⟨some 29,none,.mov (.t 6)⟩,⟨some 30,none,.idx (.t 28) (.t 29) 5⟩,⟨some 31,none,.load (.t 30) (some 5)⟩,⟨none,none,.store (.t 5) (.t 31) 5⟩])
 (.skip))))
 (.region [⟨some 18,none,.mov (.t 6)⟩,⟨some 19,none,.bin .add (.t 18) (.c (.int .i64 1))⟩,⟨some 6,none,.mov (.t 19)⟩]))))))
 (.seq (.region [⟨some 32,none,.load (.t 5) (some 5)⟩,⟨none,none,.store (.t 4) (.t 32) 5⟩])
 (.ret)))))
def r78 : List Res := [.cell 4 (some 5)]
def a78 : AFn := ⟨2, c78, r78,.v⟩
def c79 : ACode := .seq (.region [⟨some 2,none,.box (.t 0) 12⟩,⟨some 3,none,.box (.t 1) 1⟩,⟨some 4,none,.mov (.c (.int .i64 0))⟩])
 (.seq (.region [⟨some 8,none,.addr (.t 2) 11⟩,⟨some 9,none,.load (.t 8) none⟩,⟨some 10,none,.clo 118 [] [(.t 3)]⟩,⟨some 11,none,.call 59 [(.t 9), (.t 10)]⟩,⟨some 7,none,.mov (.t 11)⟩,⟨some 12,none,.ext (.t 7) 0⟩,⟨some 13,none,.ext (.t 7) 1⟩,⟨some 5,none,.new (.agg [(.int .i64 0), (.int .i64 0)]) 2⟩,⟨none,none,.store (.t 5) (.t 12) 2⟩,⟨some 6,none,.mov (.t 13)⟩])
 (.seq (.seq (.region [⟨some 14,none,.mov (.t 6)⟩,⟨some 15,none,.not (.t 14)⟩])
 (.cond (.t 15) (.seq (.region [⟨some 16,none,.load (.t 3) none⟩,⟨some 4,none,.mov (.t 16)⟩])
 (.ret))
 (.skip)))
 (.seq (.region [⟨some 17,none,.addr (.t 5) 1⟩,⟨some 18,none,.load (.t 17) none⟩,⟨some 19,none,.bin .add (.t 18) (.c (.int .i64 1))⟩,⟨some 4,none,.mov (.t 19)⟩])
 (.ret))))
def r79 : List Res := [.t 4]
def a79 : AFn := ⟨2, c79, r79,.v⟩
def c81 : ACode := .seq (.region [⟨some 2,none,.box (.t 0) 5⟩,⟨some 3,none,.box (.t 1) 5⟩,⟨some 4,none,.mov (.c (.bool false))⟩])
 (.seq (.region [⟨some 5,none,.addr (.t 2) 0⟩,⟨some 6,none,.load (.t 5) none⟩,⟨some 7,none,.addr (.t 3) 0⟩,⟨some 8,none,.load (.t 7) none⟩,⟨some 9,none,.bin .eql (.t 6) (.t 8)⟩,⟨some 10,none,.mov (.t 9)⟩,⟨some 11, some (10, true),.addr (.t 2) 1⟩,⟨some 12, some (10, true),.load (.t 11) none⟩,⟨some 13, some (10, true),.addr (.t 3) 1⟩,⟨some 14, some (10, true),.load (.t 13) none⟩,⟨some 15, some (10, true),.bin .eql (.t 12) (.t 14)⟩,⟨some 16,none,.pick (.t 10) (.t 15) (.c (.bool false))⟩,⟨some 17,none,.mov (.t 16)⟩,⟨some 18, some (17, true),.addr (.t 2) 3⟩,⟨some 19, some (17, true),.load (.t 18) none⟩,⟨some 20, some (17, true),.addr (.t 3) 3⟩,⟨some 21, some (17, true),.load (.t 20) none⟩,⟨some 22, some (17, true),.bin .eql (.t 19) (.t 21)⟩,⟨some 23,none,.pick (.t 17) (.t 22) (.c (.bool false))⟩,⟨some 24,none,.mov (.t 23)⟩,⟨some 25, some (24, true),.addr (.t 2) 4⟩,⟨some 26, some (24, true),.load (.t 25) none⟩,⟨some 27, some (24, true),.addr (.t 3) 4⟩,⟨some 28, some (24, true),.load (.t 27) none⟩,⟨some 29, some (24, true),.bin .eql (.t 26) (.t 28)⟩,⟨some 30,none,.pick (.t 24) (.t 29) (.c (.bool false))⟩,⟨some 31,none,.mov (.t 30)⟩,⟨some 32, some (31, true),.addr (.t 2) 2⟩,⟨some 33, some (31, true),.load (.t 32) none⟩,⟨some 34, some (31, true),.addr (.t 3) 2⟩,⟨some 35, some (31, true),.load (.t 34) none⟩,⟨some 36, some (31, true),.call 119 [(.t 33), (.t 35)]⟩,⟨some 37,none,.pick (.t 31) (.t 36) (.c (.bool false))⟩,⟨some 4,none,.mov (.t 37)⟩])
 (.ret))
def r81 : List Res := [.t 4]
def a81 : AFn := ⟨2, c81, r81,.v⟩
def c82 : ACode := .seq (.region [⟨some 4,none,.mov (.c (.bool false))⟩])
 (.seq (.region [⟨some 5,none,.mov (.t 0)⟩,⟨some 6,none,.mov (.t 1)⟩,⟨some 7,none,.call 120 [(.t 5), (.t 6)]⟩,⟨some 8,none,.bin .geq (.t 7) (.c (.int .i64 0))⟩,⟨some 4,none,.mov (.t 8)⟩])
 (.ret))
def r82 : List Res := [.t 4]
def a82 : AFn := ⟨2, c82, r82,.v⟩
def c83 : ACode := .seq (.region [⟨some 5,none,.mov (.t 0)⟩,⟨some 6,none,.len (.t 5)⟩,⟨some 4,none,.mov (.t 6)⟩])
 (.region [⟨some 7,none,.mov (.t 0)⟩,⟨some 8,none,.mov (.t 4)⟩,⟨some 9,none,.mov (.t 4)⟩,⟨some 10,none,.conv .u64 (.t 9)⟩,⟨some 11,none,.call 114 [(.t 10)]⟩,⟨some 12,none,.mov (.t 1)⟩,⟨some 13,none,.call 121 [(.t 7), (.c (.int .i64 0)), (.t 8), (.t 11), (.t 12)]⟩])
def r83 : List Res := []
def a83 : AFn := ⟨2, c83, r83,.r⟩
def c86 : ACode := .seq (.region [⟨some 0,none,.mov (.c .nilf)⟩])
 (.seq (.region [⟨some 2,none,.mkmap .i⟩,⟨some 1,none,.new .nilm 1⟩,⟨none,none,.store (.t 1) (.t 2) 1⟩])
 (.seq (.region [⟨some 3,none,.clo 122 [] [(.t 1)]⟩,⟨some 0,none,.mov (.t 3)⟩])
 (.ret)))
def r86 : List Res := [.t 0]
def a86 : AFn := ⟨0, c86, r86,.r⟩
def c93 : ACode := .seq (.region [⟨some 2,none,.box (.t 0) 5⟩,⟨some 3,none,.box (.t 1) 5⟩,⟨some 4,none,.mov (.c (.bool false))⟩])
 (.seq (.region [⟨some 5,none,.addr (.t 2) 0⟩,⟨some 6,none,.load (.t 5) none⟩,⟨some 7,none,.addr (.t 3) 0⟩,⟨some 8,none,.load (.t 7) none⟩,⟨some 9,none,.bin .eql (.t 6) (.t 8)⟩,⟨some 10,none,.mov (.t 9)⟩,⟨some 11, some (10, true),.addr (.t 2) 1⟩,⟨some 12, some (10, true),.load (.t 11) none⟩,⟨some 13, some (10, true),.addr (.t 3) 1⟩,⟨some 14, some (10, true),.load (.t 13) none⟩,⟨some 15, some (10, true),.bin .eql (.t 12) (.t 14)⟩,⟨some 16,none,.pick (.t 10) (.t 15) (.c (.bool false))⟩,⟨some 17,none,.mov (.t 16)⟩,⟨some 18, some (17, true),.addr (.t 2) 3⟩,⟨some 19, some (17, true),.load (.t 18) none⟩,⟨some 20, some (17, true),.addr (.t 3) 3⟩,⟨some 21, some (17, true),.load (.t 20) none⟩,⟨some 22, some (17, true),.bin .eql (.t 19) (.t 21)⟩,⟨some 23,none,.pick (.t 17) (.t 22) (.c (.bool false))⟩,⟨some 24,none,.mov (.t 23)⟩,⟨some 25, some (24, true),.addr (.t 2) 4⟩,⟨some 26, some (24, true),.load (.t 25) none⟩,⟨some 27, some (24, true),.addr (.t 3) 4⟩,⟨some 28, some (24, true),.load (.t 27) none⟩,⟨some 29, some (24, true),.bin .eql (.t 26) (.t 28)⟩,⟨some 30,none,.pick (.t 24) (.t 29) (.c (.bool false))⟩,⟨some 31,none,.mov (.t 30)⟩,⟨some 32, some (31, true),.addr (.t 2) 2⟩,⟨some 33, some (31, true),.load (.t 32) none⟩,⟨some 34, some (31, true),.addr (.t 3) 2⟩,⟨some 35, some (31, true),.load (.t 34) none⟩,⟨some 36, some (31, true),.call 123 [(.t 33), (.t 35)]⟩,⟨some 37,none,.pick (.t 31) (.t 36) (.c (.bool false))⟩,⟨some 4,none,.mov (.t 37)⟩])
 (.ret))
def r93 : List Res := [.t 4]
def a93 : AFn := ⟨2, c93, r93,.v⟩
def c94 : ACode := .seq (.region [⟨some 2,none,.box (.t 0) 5⟩,⟨some 3,none,.box (.t 1) 1⟩,⟨some 4,none,.new (.agg [(.int .i64 0), (.int .i64 0), (.int .i64 0), (.int .i64 0), (.int .i64 0), (.bool false), (.sl [] .tight)]) 7⟩,⟨some 5,none,.mov (.c (.bool false))⟩])
 (.seq (.region [⟨some 6,none,.addr (.t 2) 1⟩,⟨some 7,none,.load (.t 6) none⟩,⟨some 8,none,.clo 125 [] [(.t 3)]⟩,⟨some 9,none,.call 124 [(.t 7), (.t 8)]⟩,⟨some 10,none,.ext (.t 9) 0⟩,⟨some 11,none,.ext (.t 9) 1⟩,⟨none,none,.store (.t 4) (.t 10) 7⟩,⟨some 5,none,.mov (.t 11)⟩])
 (.ret))
def r94 : List Res := [.cell 4 (some 7),.t 5]
def a94 : AFn := ⟨2, c94, r94,.v⟩
def c95 : ACode := .seq (.region [⟨some 2,none,.mov (.c (.bool false))⟩])
 (.seq (.seq (.region [⟨some 3,none,.mov (.c (.int .i64 0))⟩])
 (.block 0 (.loop (.seq (.seq (.region [⟨some 5,none,.mov (.t 3)⟩,⟨some 6,none,.mov (.t 0)⟩,⟨some 7,none,.len (.t 6)⟩,⟨some 8,none,.bin .lss (.t 5) (.t 7)⟩])
 (.cond (.t 8) (.skip)
 (.exit 0)))
 (.seq (.block 1 (.seq (.seq (.region [⟨some 11,none,.mov (.t 0)⟩,⟨some 12,none,.mov (.t 3)⟩,⟨some 13,none,.idx (.t 11) (.t 12) 2⟩,⟨some 14,none,.addr (.t 13) 0⟩,⟨some 15,none,.load (.t 14) none⟩,⟨some 16,none,.call 73 [(.t 15), (.c (.int .i64 0)), (.c (.int .i64 99))]⟩,⟨some 17,none,.not (.t 16)⟩,⟨some 18,none,.mov (.t 17)⟩,⟨some 19, some (18, false),.mov (.t 0)⟩,⟨some 20, some (18, false),.mov (.t 3)⟩,⟨some 21, some (18, false),.idx (.t 19) (.t 20) 2⟩,⟨some 22, some (18, false),.addr (.t 21) 1⟩,⟨some 23, some (18, false),.load (.t 22) none⟩,⟨some 24, some (18, false),.call 73 [(.t 23), (.c (.int .i64 0)), (.c (.int .i64 999))]⟩,⟨some 25, some (18, false),.not (.t 24)⟩,⟨some 26,none,.pick (.t 18) (.c (.bool true)) (.t 25)⟩])
 (.cond (.t 26) (.seq (.region [⟨some 2,none,.mov (.c (.bool false))⟩])
 (.ret))
 (.skip)))
 (.seq (.region [⟨some 4,none,.mov (.c (.int .i64 0))⟩])
 (.block 2 (.loop (.seq (.seq (.region [⟨some 27,none,.mov (.t 4)⟩,⟨some 28,none,.mov (.t 3)⟩,⟨some 29,none,.bin .lss (.t 27) (.t 28)⟩])
 (.cond (.t 29) (.skip)
 (.exit 2)))
 (.seq (.block 3 (.seq (.region [⟨some 32,none,.mov (.t 0)⟩,⟨some 33,none,.mov (.t 4)⟩,⟨some 34,none,.idx (.t 32) (.t 33) 2⟩,⟨some 35,none,.addr (.t 34) 0⟩,⟨some 36,none,.load (.t 35) none⟩,⟨some 37,none,.mov (.t 0)⟩,⟨some 38,none,.mov (.t 3)⟩,⟨some 39,none,.idx (.t 37) (.t 38) 2⟩,⟨some 40,none,.addr (.t 39) 0⟩,⟨some 41,none,.load (.t 40) none⟩,⟨some 42,none,.bin .eql (.t 36) (.t 41)⟩])
 (.cond (.t 42) (.seq (.region [⟨some 2,none,.mov (.c (.bool false))⟩])
 (.ret))
 (.skip))))
 (.region [⟨some 30,none,.mov (.t 4)⟩,⟨some 31,none,.bin .add (.t 30) (.c (.int .i64 1))⟩,⟨some 4,none,.mov (.t 31)⟩]))))))))
 (.region [⟨some 9,none,.mov (.t 3)⟩,⟨some 10,none,.bin .add (.t 9) (.c (.int .i64 1))⟩,⟨some 3,none,.mov (.t 10)⟩]))))))
 (.seq (.region [⟨some 2,none,.mov (.c (.bool true))⟩])
 (.ret)))
def r95 : List Res := [.t 2]
def a95 : AFn := ⟨1, c95, r95,.v⟩
def c96 : ACode := .seq (.region [⟨some 3,none,.box (.t 1) 7⟩,⟨some 4,none,.mov (.c (.bool false))⟩])
 (.seq (.seq (.region [⟨some 5,none,.mov (.c (.int .i64 0))⟩])
 (.block 0 (.loop (.seq (.seq (.region [⟨some 8,none,.mov (.t 5)⟩,⟨some 9,none,.addr (.t 3) 6⟩,⟨some 10,none,.load (.t 9) none⟩,⟨some 11,none,.len (.t 10)⟩,⟨some 12,none,.bin .lss (.t 8) (.t 11)⟩])
 (.cond (.t 12) (.skip)
 (.exit 0)))
 (.seq (.block 1 (.seq (.region [⟨some 16,none,.mov (.t 0)⟩,⟨some 17,none,.addr (.t 3) 6⟩,⟨some 18,none,.load (.t 17) none⟩,⟨some 19,none,.mov (.t 5)⟩,⟨some 20,none,.idx (.t 18) (.t 19) 1⟩,⟨some 21,none,.load (.t 20) none⟩,⟨some 22,none,.call 104 [(.t 16), (.t 21)]⟩,⟨some 15,none,.mov (.t 22)⟩,⟨some 23,none,.ext (.t 15) 0⟩,⟨some 24,none,.ext (.t 15) 1⟩,⟨some 6,none,.mov (.t 23)⟩,⟨some 7,none,.mov (.t 24)⟩])
 (.seq (.region [⟨some 25,none,.mov (.t 7)⟩,⟨some 26,none,.not (.t 25)⟩])
 (.cond (.t 26) (.seq (.region [⟨some 4,none,.mov (.c (.bool false))⟩])
 (.ret))
 (.skip)))))
 (.region [⟨some 13,none,.mov (.t 5)⟩,⟨some 14,none,.bin .add (.t 13) (.c (.int .i64 1))⟩,⟨some 5,none,.mov (.t 14)⟩]))))))
 (.seq (.region [⟨some 27,none,.addr (.t 3) 0⟩,⟨some 28,none,.load (.t 27) none⟩,⟨some 29,none,.call 73 [(.t 28), (.c (.int .i64 0)), (.c (.int .i64 99))]⟩,⟨some 30,none,.mov (.t 29)⟩,⟨some 31, some (30, true),.addr (.t 3) 1⟩,⟨some 32, some (30, true),.load (.t 31) none⟩,⟨some 33, some (30, true),.call 73 [(.t 32), (.c (.int .i64 0)), (.c (.int .i64 99))]⟩,⟨some 34,none,.pick (.t 30) (.t 33) (.c (.bool false))⟩,⟨some 35,none,.mov (.t 34)⟩,⟨some 36, some (35, true),.addr (.t 3) 2⟩,⟨some 37, some (35, true),.load (.t 36) none⟩,⟨some 38, some (35, true),.call 73 [(.t 37), (.c (.int .i64 0)), (.c (.int .i64 9))]⟩,⟨some 39,none,.pick (.t 35) (.t 38) (.c (.bool false))⟩,⟨some 40,none,.mov (.t 39)⟩,⟨some 41, some (40, true),.addr (.t 3) 3⟩,⟨some 42, some (40, true),.load (.t 41) none⟩,⟨some 43, some (40, true),.call 73 [(.t 42), (.c (.int .i64 0)), (.c (.int .i64 9))]⟩,⟨some 44,none,.pick (.t 40) (.t 43) (.c (.bool false))⟩,⟨some 45,none,.mov (.t 44)⟩,⟨some 46, some (45, true),.addr (.t 3) 4⟩,⟨some 47, some (45, true),.load (.t 46) none⟩,⟨some 48, some (45, true),.call 73 [(.t 47), (.c (.int .i64 1)), (.c (.int .i64 400))]⟩,⟨some 49,none,.pick (.t 45) (.t 48) (.c (.bool false))⟩,⟨some 50,none,.mov (.t 49)⟩,⟨some 51, some (50, true),.addr (.t 3) 6⟩,⟨some 52, some (50, true),.load (.t 51) none⟩,⟨some 53, some (50, true),.len (.t 52)⟩,⟨some 54, some (50, true),.bin .gtr (.t 53) (.c (.int .i64 0))⟩,⟨some 55,none,.pick (.t 50) (.t 54) (.c (.bool false))⟩,⟨some 56,none,.mov (.t 55)⟩,⟨some 57, some (56, true),.addr (.t 3) 6⟩,⟨some 58, some (56, true),.load (.t 57) none⟩,⟨some 59, some (56, true),.call 97 [(.t 58)]⟩,⟨some 60,none,.pick (.t 56) (.t 59) (.c (.bool false))⟩,⟨some 4,none,.mov (.t 60)⟩])
 (.ret)))
def r96 : List Res := [.t 4]
def a96 : AFn := ⟨2, c96, r96,.v⟩
def c97 : ACode := .seq (.region [⟨some 2,none,.mov (.c (.bool false))⟩])
 (.seq (.seq (.region [⟨some 3,none,.mov (.c (.int .i64 0))⟩])
 (.block 0 (.loop (.seq (.seq (.region [⟨some 4,none,.mov (.t 3)⟩,⟨some 5,none,.mov (.t 0)⟩,⟨some 6,none,.len (.t 5)⟩,⟨some 7,none,.bin .lss (.t 4) (.t 6)⟩])
 (.cond (.t 7) (.skip)
 (.exit 0)))
 (.seq (.block 1 (.seq (.region [⟨some 10,none,.mov (.t 0)⟩,⟨some 11,none,.mov (.t 3)⟩,⟨some 12,none,.idx (.t 10) (.t 11) 1⟩,⟨some 13,none,.load (.t 12) none⟩,⟨some 14,none,.call 73 [(.t 13), (.c (.int .i64 0)), (.c (.int .i64 99))]⟩,⟨some 15,none,.not (.t 14)⟩,⟨some 16,none,.mov (.t 15)⟩,⟨some 17, some (16, false),.mov (.t 3)⟩,⟨some 18, some (16, false),.bin .gtr (.t 17) (.c (.int .i64 0))⟩,⟨some 19, some (16, false),.mov (.t 18)⟩,⟨some 20, some (19, true),.mov (.t 0)⟩,⟨some 21, some (19, true),.mov (.t 3)⟩,⟨some 22, some (19, true),.idx (.t 20) (.t 21) 1⟩,⟨some 23, some (19, true),.load (.t 22) none⟩,⟨some 24, some (19, true),.mov (.t 0)⟩,⟨some 25, some (19, true),.mov (.t 3)⟩,⟨some 26, some (19, true),.bin .sub (.t 25) (.c (.int .i64 1))⟩,⟨some 27, some (19, true),.idx (.t 24) (.t 26) 1⟩,⟨some 28, some (19, true),.load (.t 27) none⟩,⟨some 29, some (19, true),.bin .leq (.t 23) (.t 28)⟩,⟨some 30, some (16, false),.pick (.t 19) (.t 29) (.c (.bool false))⟩,⟨some 31,none,.pick (.t 16) (.c (.bool true)) (.t 30)⟩])
 (.cond (.t 31) (.seq (.region [⟨some 2,none,.mov (.c (.bool false))⟩])
 (.ret))
 (.skip))))
 (.region [⟨some 8,none,.mov (.t 3)⟩,⟨some 9,none,.bin .add (.t 8) (.c (.int .i64 1))⟩,⟨some 3,none,.mov (.t 9)⟩]))))))
 (.seq (.region [⟨some 2,none,.mov (.c (.bool true))⟩])
 (.ret)))
def r97 : List Res := [.t 2]
def a97 : AFn := ⟨1, c97, r97,.v⟩
def c98 : ACode := .seq (.region [⟨some 2,none,.box (.t 0) 12⟩,⟨some 4,none,.mov (.c (.int .i64 0))⟩])
 (.seq (.region [⟨some 8,none,.mov (.t 1)⟩,⟨some 5,none,.mov (.t 8)⟩])
 (.seq (.seq (.region [⟨some 9,none,.addr (.t 2) 10⟩,⟨some 10,none,.load (.t 9) none⟩,⟨some 11,none,.len (.t 10)⟩,⟨some 12,none,.mov (.c (.int .i64 0))⟩])
 (.block 0 (.loop (.seq (.region [⟨some 13,none,.bin .lss (.t 12) (.t 11)⟩])
 (.seq (.cond (.t 13) (.skip)
 (.exit 0))
 (.seq (.block 1 (.seq (.region [⟨some 14,none,.idx (.t 10) (.t 12) 5⟩,⟨some 15,none,.load (.t 14) (some 5)⟩,⟨some 7,none,.new (.agg [(.int .i64 0), (.int .i64 0), (.sl [] .tight), (.int .i64 0), (.int .i64 0)]) 5⟩,⟨none,none,.store (.t 7) (.t 15) 5⟩])
 (.seq (.region [⟨some 16,none,.addr (.t 7) 3⟩,⟨some 17,none,.load (.t 16) none⟩,⟨some 18,none,.mov (.t 1)⟩,⟨some 19,none,.bin .leq (.t 17) (.t 18)⟩])
 (.cond (.t 19) (.region [⟨some 20,none,.mov (.t 5)⟩,⟨some 21,none,.addr (.t 7) 4⟩,⟨some 22,none,.load (.t 21) none⟩,⟨some 23,none,.mnx true (.t 20) (.t 22)⟩,⟨some 5,none,.mov (.t 23)⟩])
 (.skip)))))
 (.region [⟨some 24,none,.bin .add (.t 12) (.c (.int .i64 1))⟩,⟨some 12,none,.mov (.t 24)⟩])))))))
 (.seq (.region [⟨some 25,none,.mov (.t 5)⟩,⟨some 4,none,.mov (.t 25)⟩])
 (.ret))))
def r98 : List Res := [.t 4]
def a98 : AFn := ⟨2, c98, r98,.v⟩
def c99 : ACode := .seq (.region [⟨some 2,none,.mov (.c (.bool false))⟩])
 (.seq (.region [⟨some 6,none,.call 86 []⟩,⟨some 3,none,.new .nilf 1⟩,⟨none,none,.store (.t 3) (.t 6) 1⟩])
 (.seq (.region [⟨some 8,none,.mov (.t 0)⟩,⟨some 9,none,.clo 127 [] [(.t 3)]⟩,⟨some 10,none,.call 126 [(.t 8), (.t 9)]⟩,⟨some 7,none,.mov (.t 10)⟩,⟨some 11,none,.ext (.t 7) 0⟩,⟨some 12,none,.ext (.t 7) 1⟩,⟨some 4,none,.new (.agg [(.int .i64 0), (.int .i64 0)]) 2⟩,⟨none,none,.store (.t 4) (.t 11) 2⟩,⟨some 5,none,.mov (.t 12)⟩])
 (.seq (.region [⟨some 13,none,.mov (.t 5)⟩,⟨some 14,none,.not (.t 13)⟩,⟨some 2,none,.mov (.t 14)⟩])
 (.ret))))
def r99 : List Res := [.t 2]
def a99 : AFn := ⟨1, c99, r99,.v⟩
def c100 : ACode := .seq (.region [⟨some 3,none,.box (.t 1) 1⟩,⟨some 4,none,.mov (.c (.bool false))⟩])
 (.seq (.region [⟨some 8,none,.call 86 []⟩,⟨some 5,none,.new .nilf 1⟩,⟨none,none,.store (.t 5) (.t 8) 1⟩])
 (.seq (.region [⟨some 10,none,.mov (.t 0)⟩,⟨some 11,none,.clo 128 [] [(.t 5), (.t 3)]⟩,⟨some 12,none,.call 124 [(.t 10), (.t 11)]⟩,⟨some 9,none,.mov (.t 12)⟩,⟨some 13,none,.ext (.t 9) 0⟩,⟨some 14,none,.ext (.t 9) 1⟩,⟨some 6,none,.new (.agg [(.int .i64 0), (.int .i64 0), (.int .i64 0), (.int .i64 0), (.int .i64 0), (.bool false), (.sl [] .tight)]) 7⟩,⟨none,none,.store (.t 6) (.t 13) 7⟩,⟨some 7,none,.mov (.t 14)⟩])
 (.seq (.region [⟨some 15,none,.mov (.t 7)⟩,⟨some 16,none,.not (.t 15)⟩,⟨some 4,none,.mov (.t 16)⟩])
 (.ret))))
def r100 : List Res := [.t 4]
def a100 : AFn := ⟨2, c100, r100,.v⟩
def c101 : ACode := .seq (.region [⟨some 2,none,.mov (.c (.bool false))⟩])
 (.seq (.region [⟨some 6,none,.call 86 []⟩,⟨some 3,none,.new .nilf 1⟩,⟨none,none,.store (.t 3) (.t 6) 1⟩])
 (.seq (.region [⟨some 8,none,.mov (.t 0)⟩,⟨some 9,none,.clo 130 [] [(.t 3)]⟩,⟨some 10,none,.call 105 [(.t 8), (.t 9)]⟩,⟨some 7,none,.mov (.t 10)⟩,⟨some 11,none,.ext (.t 7) 0⟩,⟨some 12,none,.ext (.t 7) 1⟩,⟨some 4,none,.new (.agg [(.int .i64 0), (.sl [] .tight), (.sl [] .tight)]) 3⟩,⟨none,none,.store (.t 4) (.t 11) 3⟩,⟨some 5,none,.mov (.t 12)⟩])
 (.seq (.region [⟨some 13,none,.mov (.t 5)⟩,⟨some 14,none,.not (.t 13)⟩,⟨some 2,none,.mov (.t 14)⟩])
 (.ret))))
def r101 : List Res := [.t 2]
def a101 : AFn := ⟨1, c101, r101,.v⟩
def c102 : ACode := .seq (.region [⟨some 2,none,.mov (.c (.bool false))⟩])
 (.seq (.region [⟨some 3,none,.mov (.t 0)⟩,⟨some 4,none,.call 82 [(.t 3), (.c (.fn 132 [] []))]⟩,⟨some 5,none,.not (.t 4)⟩,⟨some 2,none,.mov (.t 5)⟩])
 (.ret))
def r102 : List Res := [.t 2]
def a102 : AFn := ⟨1, c102, r102,.v⟩
def c103 : ACode := .seq (.region [⟨some 2,none,.mov (.c (.bool false))⟩])
 (.seq (.region [⟨some 3,none,.mov (.t 0)⟩,⟨some 4,none,.call 134 [(.t 3), (.c (.fn 135 [] []))]⟩,⟨some 5,none,.not (.t 4)⟩,⟨some 2,none,.mov (.t 5)⟩])
 (.ret))
def r103 : List Res := [.t 2]
def a103 : AFn := ⟨1, c103, r103,.v⟩
def c104 : ACode := .seq (.region [⟨some 4,none,.mov (.c (.int .i64 0))⟩,⟨some 5,none,.mov (.c (.bool false))⟩])
 (.seq (.seq (.region [⟨some 6,none,.mov (.c (.int .i64 0))⟩])
 (.block 0 (.loop (.seq (.seq (.region [⟨some 7,none,.mov (.t 6)⟩,⟨some 8,none,.mov (.t 0)⟩,⟨some 9,none,.len (.t 8)⟩,⟨some 10,none,.bin .lss (.t 7) (.t 9)⟩])
 (.cond (.t 10) (.skip)
 (.exit 0)))
 (.seq (.block 1 (.seq (.region [⟨some 13,none,.mov (.t 0)⟩,⟨some 14,none,.mov (.t 6)⟩,⟨some 15,none,.idx (.t 13) (.t 14) 2⟩,⟨some 16,none,.addr (.t 15) 0⟩,⟨some 17,none,.load (.t 16) none⟩,⟨some 18,none,.mov (.t 1)⟩,⟨some 19,none,.bin .eql (.t 17) (.t 18)⟩])
 (.cond (.t 19) (.seq (.region [⟨some 20,none,.mov (.t 0)⟩,⟨some 21,none,.mov (.t 6)⟩,⟨some 22,none,.idx (.t 20) (.t 21) 2⟩,⟨some 23,none,.addr (.t 22) 1⟩,⟨some 24,none,.load (.t 23) none⟩,⟨some 4,none,.mov (.t 24)⟩,⟨some 5,none,.mov (.c (.bool true))⟩])
 (.ret))
 (.skip))))
 (.region [⟨some 11,none,.mov (.t 6)⟩,⟨some 12,none,.bin .add (.t 11) (.c (.int .i64 1))⟩,⟨some 6,none,.mov (.t 12)⟩]))))))
 (.seq (.region [⟨some 4,none,.mov (.c (.int .i64 0))⟩,⟨some 5,none,.mov (.c (.bool false))⟩])
 (.ret)))
def r104 : List Res := [.t 4,.t 5]
def a104 : AFn := ⟨2, c104, r104,.v⟩
def c105 : ACode := .seq (.region [⟨some 4,none,.new (.agg [(.int .i64 0), (.sl [] .tight), (.sl [] .tight)]) 3⟩,⟨some 5,none,.mov (.c (.bool false))⟩])
 (.seq (.seq (.region [⟨some 9,none,.mov (.t 0)⟩,⟨some 10,none,.len (.t 9)⟩,⟨some 11,none,.mov (.c (.int .i64 0))⟩])
 (.block 0 (.loop (.seq (.region [⟨some 12,none,.bin .lss (.t 11) (.t 10)⟩])
 (.seq (.cond (.t 12) (.skip)
 (.exit 0))
 (.seq (.block 1 (.seq (.region [⟨some 13,none,.idx (.t 9) (.t 11) 3⟩,⟨some 14,none,.load (.t 13) (some 3)⟩,⟨some 7,none,.new (.agg [(.int .i64 0), (.sl [] .tight), (.sl [] .tight)]) 3⟩,⟨none,none,.store (.t 7) (.t 14) 3⟩])
 (.seq (.region [⟨some 15,none,.mov (.t 1)⟩,⟨some 16,none,.load (.t 7) (some 3)⟩,⟨some 17,none,.callv (.t 15) [(.t 16)]⟩])
 (.cond (.t 17) (.seq (.region [⟨some 18,none,.load (.t 7) (some 3)⟩,⟨none,none,.store (.t 4) (.t 18) 3⟩,⟨some 5,none,.mov (.c (.bool true))⟩])
 (.ret))
 (.skip)))))
 (.region [⟨some 19,none,.bin .add (.t 11) (.c (.int .i64 1))⟩,⟨some 11,none,.mov (.t 19)⟩])))))))
 (.seq (.region [⟨some 8,none,.new (.agg [(.int .i64 0), (.sl [] .tight), (.sl [] .tight)]) 3⟩])
 (.seq (.region [⟨some 20,none,.load (.t 8) (some 3)⟩,⟨none,none,.store (.t 4) (.t 20) 3⟩,⟨some 5,none,.mov (.c (.bool false))⟩])
 (.ret))))
def r105 : List Res := [.cell 4 (some 3),.t 5]
def a105 : AFn := ⟨2, c105, r105,.r⟩
def c106 : ACode := .seq (.region [⟨some 2,none,.box (.t 0) 3⟩,⟨some 3,none,.mov (.c (.bool false))⟩])
 (.seq (.region [⟨some 4,none,.addr (.t 2) 0⟩,⟨some 5,none,.load (.t 4) none⟩,⟨some 6,none,.load (.t 1) none⟩,⟨some 7,none,.bin .eql (.t 5) (.t 6)⟩,⟨some 3,none,.mov (.t 7)⟩])
 (.ret))
def r106 : List Res := [.t 3]
def a106 : AFn := ⟨2, c106, r106,.v⟩
def c107 : ACode := .seq (.region [⟨some 6,none,.mov (.c (.bool false))⟩])
 (.seq (.region [⟨some 7,none,.mov (.t 1)⟩,⟨some 8,none,.mov (.t 0)⟩,⟨some 9,none,.bin .leq (.t 7) (.t 8)⟩,⟨some 10,none,.mov (.t 9)⟩,⟨some 11, some (10, true),.mov (.t 0)⟩,⟨some 12, some (10, true),.mov (.t 2)⟩,⟨some 13, some (10, true),.bin .leq (.t 11) (.t 12)⟩,⟨some 14,none,.pick (.t 10) (.t 13) (.c (.bool false))⟩,⟨some 6,none,.mov (.t 14)⟩])
 (.ret))
def r107 : List Res := [.t 6]
def a107 : AFn := ⟨3, c107, r107,.v⟩
def c108 : ACode := .seq (.region [⟨some 2,none,.mov (.c (.bool false))⟩])
 (.seq (.region [⟨some 3,none,.mov (.t 0)⟩,⟨some 4,none,.call 107 [(.t 3), (.c (.int .i64 0)), (.c (.int .i64 99))]⟩,⟨some 2,none,.mov (.t 4)⟩])
 (.ret))
def r108 : List Res := [.t 2]
def a108 : AFn := ⟨1, c108, r108,.v⟩
def c110 : ACode := .seq (.region [⟨some 6,none,.mov (.c (.sl [] .tight))⟩])
 (.seq (.region [⟨some 7,none,.mov (.c (.sl [] .tight))⟩])
 (.seq (.seq (.region [⟨some 12,none,.mov (.t 1)⟩,⟨some 13,none,.len (.t 12)⟩,⟨some 14,none,.mov (.c (.int .i64 0))⟩])
 (.block 0 (.loop (.seq (.region [⟨some 15,none,.bin .lss (.t 14) (.t 13)⟩])
 (.seq (.cond (.t 15) (.skip)
 (.exit 0))
 (.seq (.block 1 (.seq (.region [⟨some 16,none,.idx (.t 12) (.t 14) 1⟩,⟨some 17,none,.load (.t 16) none⟩,⟨some 9,none,.mov (.t 17)⟩])
 (.seq (.region [⟨some 19,none,.mov (.t 0)⟩,⟨some 20,none,.mov (.t 9)⟩,⟨some 21,none,.call 136 [(.t 19), (.t 20)]⟩,⟨some 18,none,.mov (.t 21)⟩,⟨some 22,none,.ext (.t 18) 0⟩,⟨some 23,none,.ext (.t 18) 1⟩,⟨some 10,none,.new (.agg [(.int .i64 0), (.int .i64 0)]) 2⟩,⟨none,none,.store (.t 10) (.t 22) 2⟩,⟨some 11,none,.mov (.t 23)⟩])
 (.seq (.region [⟨some 24,none,.mov (.t 2)⟩,⟨some 25,none,.load (.t 10) (some 2)⟩,⟨some 26,none,.call 137 [(.t 24), (.t 25)]⟩,⟨some 27,none,.not (.t 26)⟩])
 (.cond (.t 27) (.region [⟨some 28,none,.mov (.t 7)⟩,⟨some 29,none,.mov (.t 9)⟩,⟨some 30,none,.lit false 3 1 [(.t 29)]⟩,⟨some 31,none,.app false (.t 28) (.t 30) 3 1 8⟩,⟨some 7,none,.mov (.t 31)⟩])
 (.skip))))))
 (.region [⟨some 32,none,.bin .add (.t 14) (.c (.int .i64 1))⟩,⟨some 14,none,.mov (.t 32)⟩])))))))
 (.seq (.region [⟨some 33,none,.mov (.t 7)⟩,⟨some 6,none,.mov (.t 33)⟩])
 (.ret))))
def r110 : List Res := [.t 6]
def a110 : AFn := ⟨3, c110, r110,.v⟩
def c111 : ACode := .seq (.region [⟨some 4,none,.mov (.c (.bool false))⟩])
 (.seq (.region [⟨some 5,none,.mov (.t 0)⟩,⟨some 6,none,.mov (.t 1)⟩,⟨some 7,none,.call 138 [(.t 5), (.t 6)]⟩,⟨some 8,none,.bin .geq (.t 7) (.c (.int .i64 0))⟩,⟨some 4,none,.mov (.t 8)⟩])
 (.ret))
def r111 : List Res := [.t 4]
def a111 : AFn := ⟨2, c111, r111,.v⟩
def c112 : ACode := .seq (.region [⟨some 1,none,.box (.t 0) 12⟩,⟨some 2,none,.mov (.c (.sl [] .tight))⟩])
 (.seq (.seq (.region [⟨some 8,none,.addr (.t 1) 0⟩,⟨some 9,none,.addr (.t 8) 5⟩,⟨some 10,none,.load (.t 9) none⟩,⟨some 11,none,.not (.t 10)⟩])
 (.cond (.t 11) (.seq (.region [⟨some 12,none,.build [(.int .i64 0), (.int .i64 0)] [(0, 1, (.c (.int .i64 0))), (1, 1, (.c (.int .i64 9999)))]⟩,⟨some 13,none,.lit true 60 2 [(.t 12)]⟩,⟨some 2,none,.mov (.t 13)⟩])
 (.ret))
 (.skip)))
 (.seq (.region [⟨some 3,none,.mov (.c (.fn 139 [] []))⟩])
 (.seq (.region [⟨some 4,none,.mov (.c (.sl [] .tight))⟩])
 (.seq (.seq (.region [⟨some 14,none,.addr (.t 1) 10⟩,⟨some 15,none,.load (.t 14) none⟩,⟨some 16,none,.call 141 [(.t 15)]⟩,⟨some 17,none,.mov (.t 3)⟩,⟨some 18,none,.call 140 [(.t 16), (.t 17)]⟩,⟨some 19,none,.len (.t 18)⟩,⟨some 20,none,.mov (.c (.int .i64 0))⟩])
 (.block 0 (.loop (.seq (.region [⟨some 21,none,.bin .lss (.t 20) (.t 19)⟩])
 (.seq (.cond (.t 21) (.skip)
 (.exit 0))
 (.seq (.block 1 (.seq (.region [⟨some 22,none,.idx (.t 18) (.t 20) 5⟩,⟨some 23,none,.load (.t 22) (some 5)⟩,⟨some 6,none,.new (.agg [(.int .i64 0), (.int .i64 0), (.sl [] .tight), (.int .i64 0), (.int .i64 0)]) 5⟩,⟨none,none,.store (.t 6) (.t 23) 5⟩])
 (.seq (.region [⟨some 24,none,.mov (.t 4)⟩,⟨some 25,none,.len (.t 24)⟩,⟨some 26,none,.bin .sub (.t 25) (.c (.int .i64 1))⟩,⟨some 7,none,.mov (.t 26)⟩])
 (.seq (.region [⟨some 27,none,.mov (.t 7)⟩,⟨some 28,none,.bin .geq (.t 27) (.c (.int .i64 0))⟩,⟨some 29,none,.mov (.t 28)⟩,⟨some 30, some (29, true),.addr (.t 6) 3⟩,⟨some 31, some (29, true),.load (.t 30) none⟩,⟨some 32, some (29, true),.mov (.t 4)⟩,⟨some 33, some (29, true),.mov (.t 7)⟩,⟨some 34, some (29, true),.idx (.t 32) (.t 33) 2⟩,⟨some 35, some (29, true),.addr (.t 34) 1⟩,⟨some 36, some (29, true),.load (.t 35) none⟩,⟨some 37, some (29, true),.bin .add (.t 36) (.c (.int .i64 1))⟩,⟨some 38, some (29, true),.bin .leq (.t 31) (.t 37)⟩,⟨some 39,none,.pick (.t 29) (.t 38) (.c (.bool false))⟩])
 (.cond (.t 39) (.region [⟨some 40,none,.mov (.t 4)⟩,⟨some 41,none,.mov (.t 7)⟩,⟨some 42,none,.mov (.t 4)⟩,⟨some 43,none,.mov (.t 7)⟩,⟨some 44,none,.idx (.t 42) (.t 43) 2⟩,⟨some 45,none,.addr (.t 44) 1⟩,⟨some 46,none,.load (.t 45) none⟩,⟨some 47,none,.addr (.t 6) 4⟩,⟨some 48,none,.load (.t 47) none⟩,⟨some 49,none,.mnx true (.t 46) (.t 48)⟩,⟨some 50,none,.idx (.t 40) (.t 41) 2⟩,⟨some 51,none,.addr (.t 50) 1⟩,⟨none,none,.store (.t 51) (.t 49) 1⟩])
 (.region [⟨some 52,none,.mov (.t 4)⟩,⟨some 53,none,.addr (.t 6) 3⟩,⟨some 54,none,.load (.t 53) none⟩,⟨some 55,none,.addr (.t 6) 4⟩,⟨some 56,none,.load (.t 55) none⟩,⟨some 57,none,.build [(.int .i64 0), (.int .i64 0)] [(0, 1, (.t 54)), (1, 1, (.t 56))]⟩,⟨some 58,none,.lit true 60 2 [(.t 57)]⟩,⟨some 59,none,.app true (.t 52) (.t 58) 60 2 16⟩,⟨some 4,none,.mov (.t 59)⟩]))))))
 (.region [⟨some 60,none,.bin .add (.t 20) (.c (.int .i64 1))⟩,⟨some 20,none,.mov (.t 60)⟩])))))))
 (.seq (.region [⟨some 61,none,.mov (.t 4)⟩,⟨some 2,none,.mov (.t 61)⟩])
 (.ret))))))
def r112 : List Res := [.t 2]
def a112 : AFn := ⟨1, c112, r112,.v⟩
def c114 : ACode := .seq (.region [⟨some 2,none,.mov (.c (.int .i64 0))⟩])
 (.seq (.cond (.c (.bool false)) (.seq (.region [⟨some 3,none,.mov (.t 0)⟩,⟨some 4,none,.conv .u32 (.t 3)⟩,⟨some 5,none,.call 151 [(.t 4)]⟩,⟨some 2,none,.mov (.t 5)⟩])
 (.ret))
 (.skip))
 (.seq (.region [⟨some 6,none,.mov (.t 0)⟩,⟨some 7,none,.call 152 [(.t 6)]⟩,⟨some 2,none,.mov (.t 7)⟩])
 (.ret)))
def r114 : List Res := [.t 2]
def a114 : AFn := ⟨1, c114, r114,.v⟩
def c115 : ACode := .seq (.region [⟨some 2,none,.mov (.c (.bool false))⟩])
 (.seq (.region [⟨some 3,none,.mov (.t 0)⟩,⟨some 4,none,.mov (.t 0)⟩,⟨some 5,none,.bin .neq (.t 3) (.t 4)⟩,⟨some 2,none,.mov (.t 5)⟩])
 (.ret))
def r115 : List Res := [.t 2]
def a115 : AFn := ⟨1, c115, r115,.v⟩
def c116 : ACode := .seq (.region [⟨some 4,none,.mov (.c (.int .i64 0))⟩,⟨some 5,none,.mov (.c (.bool false))⟩])
 (.seq (.seq (.region [⟨some 9,none,.mov (.t 0)⟩,⟨some 10,none,.len (.t 9)⟩,⟨some 11,none,.mov (.c (.int .i64 0))⟩])
 (.block 0 (.loop (.seq (.region [⟨some 12,none,.bin .lss (.t 11) (.t 10)⟩])
 (.seq (.cond (.t 12) (.skip)
 (.exit 0))
 (.seq (.block 1 (.seq (.region [⟨some 13,none,.idx (.t 9) (.t 11) 1⟩,⟨some 14,none,.load (.t 13) none⟩,⟨some 7,none,.mov (.t 14)⟩])
 (.seq (.region [⟨some 15,none,.mov (.t 1)⟩,⟨some 16,none,.mov (.t 7)⟩,⟨some 17,none,.callv (.t 15) [(.t 16)]⟩])
 (.cond (.t 17) (.seq (.region [⟨some 18,none,.mov (.t 7)⟩,⟨some 4,none,.mov (.t 18)⟩,⟨some 5,none,.mov (.c (.bool true))⟩])
 (.ret))
 (.skip)))))
 (.region [⟨some 19,none,.bin .add (.t 11) (.c (.int .i64 1))⟩,⟨some 11,none,.mov (.t 19)⟩])))))))
 (.seq (.region [⟨some 8,none,.mov (.c (.int .i64 0))⟩])
 (.seq (.region [⟨some 20,none,.mov (.t 8)⟩,⟨some 4,none,.mov (.t 20)⟩,⟨some 5,none,.mov (.c (.bool false))⟩])
 (.ret))))
def r116 : List Res := [.t 4,.t 5]
def a116 : AFn := ⟨2, c116, r116,.r⟩
def c117 : ACode := .seq (.region [⟨some 3,none,.mov (.c (.bool false))⟩])
 (.seq (.region [⟨some 4,none,.addr (.t 1) 2⟩,⟨some 5,none,.load (.t 4) none⟩,⟨some 6,none,.mov (.t 0)⟩,⟨some 7,none,.call 111 [(.t 5), (.t 6)]⟩,⟨some 8,none,.not (.t 7)⟩,⟨some 3,none,.mov (.t 8)⟩])
 (.ret))
def r117 : List Res := [.t 3]
def a117 : AFn := ⟨2, c117, r117,.v⟩
def c118 : ACode := .seq (.region [⟨some 2,none,.box (.t 0) 2⟩,⟨some 3,none,.mov (.c (.bool false))⟩])
 (.seq (.region [⟨some 4,none,.load (.t 1) none⟩,⟨some 5,none,.addr (.t 2) 0⟩,⟨some 6,none,.load (.t 5) none⟩,⟨some 7,none,.addr (.t 2) 1⟩,⟨some 8,none,.load (.t 7) none⟩,⟨some 9,none,.call 107 [(.t 4), (.t 6), (.t 8)]⟩,⟨some 3,none,.mov (.t 9)⟩])
 (.ret))
def r118 : List Res := [.t 3]
def a118 : AFn := ⟨2, c118, r118,.v⟩
def c119 : ACode := .seq (.region [⟨some 4,none,.mov (.c (.bool false))⟩])
 (.seq (.seq (.region [⟨some 6,none,.mov (.t 0)⟩,⟨some 7,none,.len (.t 6)⟩,⟨some 8,none,.mov (.t 1)⟩,⟨some 9,none,.len (.t 8)⟩,⟨some 10,none,.bin .neq (.t 7) (.t 9)⟩])
 (.cond (.t 10) (.seq (.region [⟨some 4,none,.mov (.c (.bool false))⟩])
 (.ret))
 (.skip)))
 (.seq (.seq (.region [⟨some 11,none,.mov (.t 0)⟩,⟨some 12,none,.len (.t 11)⟩,⟨some 13,none,.mov (.c (.int .i64 0))⟩])
 (.block 0 (.loop (.seq (.region [⟨some 14,none,.bin .lss (.t 13) (.t 12)⟩])
 (.seq (.cond (.t 14) (.skip)
 (.exit 0))
 (.seq (.block 1 (.seq (.region [⟨some 15,none,.mov (.t 13)⟩,⟨some 5,none,.mov (.t 15)⟩])
 (.seq (.region [⟨some 16,none,.mov (.t 0)⟩,⟨some 17,none,.mov (.t 5)⟩,⟨some 18,none,.idx (.t 16) (.t 17) 1⟩,⟨some 19,none,.load (.t 18) none⟩,⟨some 20,none,.mov (.t 1)⟩,⟨some 21,none,.mov (.t 5)⟩,⟨some 22,none,.idx (.t 20) (.t 21) 1⟩,⟨some 23,none,.load (.t 22) none⟩,⟨some 24,none,.bin .neq (.t 19) (.t 23)⟩])
 (.cond (.t 24) (.seq (.region [⟨some 4,none,.mov (.c (.bool false))⟩])
 (.ret))
 (.skip)))))
 (.region [⟨some 25,none,.bin .add (.t 13) (.c (.int .i64 1))⟩,⟨some 13,none,.mov (.t 25)⟩])))))))
 (.seq (.region [⟨some 4,none,.mov (.c (.bool true))⟩])
 (.ret))))
def r119 : List Res := [.t 4]
def a119 : AFn := ⟨2, c119, r119,.v⟩
def c120 : ACode := .seq (.region [⟨some 4,none,.mov (.c (.int .i64 0))⟩])
 (.seq (.seq (.region [⟨some 6,none,.mov (.t 0)⟩,⟨some 7,none,.len (.t 6)⟩,⟨some 8,none,.mov (.c (.int .i64 0))⟩])
 (.block 0 (.loop (.seq (.region [⟨some 9,none,.bin .lss (.t 8) (.t 7)⟩])
 (.seq (.cond (.t 9) (.skip)
 (.exit 0))
 (.seq (.block 1 (.seq (.region [⟨some 10,none,.mov (.t 8)⟩,⟨some 5,none,.mov (.t 10)⟩])
 (.seq (.region [⟨some 11,none,.mov (.t 1)⟩,⟨some 12,none,.mov (.t 0)⟩,⟨some 13,none,.mov (.t 5)⟩,⟨some 14,none,.idx (.t 12) (.t 13) 5⟩,⟨some 15,none,.load (.t 14) (some 5)⟩,⟨some 16,none,.callv (.t 11) [(.t 15)]⟩])
 (.cond (.t 16) (.seq (.region [⟨some 17,none,.mov (.t 5)⟩,⟨some 4,none,.mov (.t 17)⟩])
 (.ret))
 (.skip)))))
 (.region [⟨some 18,none,.bin .add (.t 8) (.c (.int .i64 1))⟩,⟨some 8,none,.mov (.t 18)⟩])))))))
 (.seq (.region [⟨some 4,none,.mov (.c (.int .i64 (-1)))⟩])
 (.ret)))
def r120 : List Res := [.t 4]
def a120 : AFn := ⟨2, c120, r120,.v⟩
def c121 : ACode := Srt.pdqsortF 5 (some 5) 155 156 154 153 158 160 159 121 157
def r121 : List Res := []
def a121 : AFn := ⟨5, c121, r121,.r⟩
def c122 : ACode := .seq (.region [⟨some 3,none,.mov (.c (.bool false))⟩])
 (.seq (.region [⟨some 5,none,.load (.t 1) none⟩,⟨some 6,none,.mov (.t 0)⟩,⟨some 7,none,.mget .i (.bool false) false (.t 5) (.t 6)⟩,⟨some 4,none,.mov (.t 7)⟩])
 (.seq (.region [⟨some 8,none,.load (.t 1) none⟩,⟨some 9,none,.mov (.t 0)⟩,⟨none,none,.mput .i (.t 8) (.t 9) (.c (.bool true))⟩])
 (.seq (.region [⟨some 10,none,.mov (.t 4)⟩,⟨some 11,none,.not (.t 10)⟩,⟨some 3,none,.mov (.t 11)⟩])
 (.ret))))
def r122 : List Res := [.t 3]
def a122 : AFn := ⟨2, c122, r122,.r⟩
def c123 : ACode := .seq (.region [⟨some 4,none,.mov (.c (.bool false))⟩])
 (.seq (.seq (.region [⟨some 5,none,.mov (.c (.int .i64 0))⟩])
 (.block 0 (.loop (.seq (.seq (.region [⟨some 6,none,.mov (.t 5)⟩,⟨some 7,none,.mov (.t 0)⟩,⟨some 8,none,.len (.t 7)⟩,⟨some 9,none,.bin .lss (.t 6) (.t 8)⟩,⟨some 10,none,.mov (.t 9)⟩,⟨some 11, some (10, true),.mov (.t 5)⟩,⟨some 12, some (10, true),.mov (.t 1)⟩,⟨some 13, some (10, true),.len (.t 12)⟩,⟨some 14, some (10, true),.bin .lss (.t 11) (.t 13)⟩,⟨some 15,none,.pick (.t 10) (.t 14) (.c (.bool false))⟩])
 (.cond (.t 15) (.skip)
 (.exit 0)))
 (.seq (.block 1 (.seq (.region [⟨some 18,none,.mov (.t 0)⟩,⟨some 19,none,.mov (.t 5)⟩,⟨some 20,none,.idx (.t 18) (.t 19) 1⟩,⟨some 21,none,.load (.t 20) none⟩,⟨some 22,none,.mov (.t 1)⟩,⟨some 23,none,.mov (.t 5)⟩,⟨some 24,none,.idx (.t 22) (.t 23) 1⟩,⟨some 25,none,.load (.t 24) none⟩,⟨some 26,none,.bin .neq (.t 21) (.t 25)⟩])
 (.cond (.t 26) (.seq (.region [⟨some 4,none,.mov (.c (.bool false))⟩])
 (.ret))
 (.skip))))
 (.region [⟨some 16,none,.mov (.t 5)⟩,⟨some 17,none,.bin .add (.t 16) (.c (.int .i64 1))⟩,⟨some 5,none,.mov (.t 17)⟩]))))))
 (.seq (.region [⟨some 27,none,.mov (.t 0)⟩,⟨some 28,none,.len (.t 27)⟩,⟨some 29,none,.mov (.t 1)⟩,⟨some 30,none,.len (.t 29)⟩,⟨some 31,none,.bin .eql (.t 28) (.t 30)⟩,⟨some 4,none,.mov (.t 31)⟩])
 (.ret)))
def r123 : List Res := [.t 4]
def a123 : AFn := ⟨2, c123, r123,.v⟩
def c124 : ACode := .seq (.region [⟨some 4,none,.new (.agg [(.int .i64 0), (.int .i64 0), (.int .i64 0), (.int .i64 0), (.int .i64 0), (.bool false), (.sl [] .tight)]) 7⟩,⟨some 5,none,.mov (.c (.bool false))⟩])
 (.seq (.seq (.region [⟨some 9,none,.mov (.t 0)⟩,⟨some 10,none,.len (.t 9)⟩,⟨some 11,none,.mov (.c (.int .i64 0))⟩])
 (.block 0 (.loop (.seq (.region [⟨some 12,none,.bin .lss (.t 11) (.t 10)⟩])
 (.seq (.cond (.t 12) (.skip)
 (.exit 0))
 (.seq (.block 1 (.seq (.region [⟨some 13,none,.idx (.t 9) (.t 11) 7⟩,⟨some 14,none,.load (.t 13) (some 7)⟩,⟨some 7,none,.new (.agg [(.int .i64 0), (.int .i64 0), (.int .i64 0), (.int .i64 0), (.int .i64 0), (.bool false), (.sl [] .tight)]) 7⟩,⟨none,none,.store (.t 7) (.t 14) 7⟩])
 (.seq (.region [⟨some 15,none,.mov (.t 1)⟩,⟨some 16,none,.load (.t 7) (some 7)⟩,⟨some 17,none,.callv (.t 15) [(.t 16)]⟩])
 (.cond (.t 17) (.seq (.region [⟨some 18,none,.load (.t 7) (some 7)⟩,⟨none,none,.store (.t 4) (.t 18) 7⟩,⟨some 5,none,.mov (.c (.bool true))⟩])
 (.ret))
 (.skip)))))
 (.region [⟨some 19,none,.bin .add (.t 11) (.c (.int .i64 1))⟩,⟨some 11,none,.mov (.t 19)⟩])))))))
 (.seq (.region [⟨some 8,none,.new (.agg [(.int .i64 0), (.int .i64 0), (.int .i64 0), (.int .i64 0), (.int .i64 0), (.bool false), (.sl [] .tight)]) 7⟩])
 (.seq (.region [⟨some 20,none,.load (.t 8) (some 7)⟩,⟨none,none,.store (.t 4) (.t 20) 7⟩,⟨some 5,none,.mov (.c (.bool false))⟩])
 (.ret))))
def r124 : List Res := [.cell 4 (some 7),.t 5]
def a124 : AFn := ⟨2, c124, r124,.r⟩
def c125 : ACode := .seq (.region [⟨some 2,none,.box (.t 0) 7⟩,⟨some 3,none,.mov (.c (.bool false))⟩])
 (.seq (.region [⟨some 4,none,.addr (.t 2) 0⟩,⟨some 5,none,.load (.t 4) none⟩,⟨some 6,none,.load (.t 1) none⟩,⟨some 7,none,.bin .eql (.t 5) (.t 6)⟩,⟨some 3,none,.mov (.t 7)⟩])
 (.ret))
def r125 : List Res := [.t 3]
def a125 : AFn := ⟨2, c125, r125,.v⟩
def c126 : ACode := .seq (.region [⟨some 4,none,.new (.agg [(.int .i64 0), (.int .i64 0)]) 2⟩,⟨some 5,none,.mov (.c (.bool false))⟩])
 (.seq (.seq (.region [⟨some 9,none,.mov (.t 0)⟩,⟨some 10,none,.len (.t 9)⟩,⟨some 11,none,.mov (.c (.int .i64 0))⟩])
 (.block 0 (.loop (.seq (.region [⟨some 12,none,.bin .lss (.t 11) (.t 10)⟩])
 (.seq (.cond (.t 12) (.skip)
 (.exit 0))
 (.seq (.block 1 (.seq (.region [⟨some 13,none,.idx (.t 9) (.t 11) 2⟩,⟨some 14,none,.load (.t 13) (some 2)⟩,⟨some 7,none,.new (.agg [(.int .i64 0), (.int .i64 0)]) 2⟩,⟨none,none,.store (.t 7) (.t 14) 2⟩])
 (.seq (.region [⟨some 15,none,.mov (.t 1)⟩,⟨some 16,none,.load (.t 7) (some 2)⟩,⟨some 17,none,.callv (.t 15) [(.t 16)]⟩])
 (.cond (.t 17) (.seq (.region [⟨some 18,none,.load (.t 7) (some 2)⟩,⟨none,none,.store (.t 4) (.t 18) 2⟩,⟨some 5,none,.mov (.c (.bool true))⟩])
 (.ret))
 (.skip)))))
 (.region [⟨some 19,none,.bin .add (.t 11) (.c (.int .i64 1))⟩,⟨some 11,none,.mov (.t 19)⟩])))))))
 (.seq (.region [⟨some 8,none,.new (.agg [(.int .i64 0), (.int .i64 0)]) 2⟩])
 (.seq (.region [⟨some 20,none,.load (.t 8) (some 2)⟩,⟨none,none,.store (.t 4) (.t 20) 2⟩,⟨some 5,none,.mov (.c (.bool false))⟩])
 (.ret))))
def r126 : List Res := [.cell 4 (some 2),.t 5]
def a126 : AFn := ⟨2, c126, r126,.r⟩
def c127 : ACode := .seq (.region [⟨some 2,none,.box (.t 0) 2⟩,⟨some 3,none,.mov (.c (.bool false))⟩])
 (.seq (.region [⟨some 4,none,.load (.t 1) none⟩,⟨some 5,none,.addr (.t 2) 0⟩,⟨some 6,none,.load (.t 5) none⟩,⟨some 7,none,.callv (.t 4) [(.t 6)]⟩,⟨some 8,none,.not (.t 7)⟩,⟨some 9,none,.mov (.t 8)⟩,⟨some 10, some (9, false),.addr (.t 2) 0⟩,⟨some 11, some (9, false),.load (.t 10) none⟩,⟨some 12, some (9, false),.call 108 [(.t 11)]⟩,⟨some 13, some (9, false),.not (.t 12)⟩,⟨some 14,none,.pick (.t 9) (.c (.bool true)) (.t 13)⟩,⟨some 15,none,.mov (.t 14)⟩,⟨some 16, some (15, false),.addr (.t 2) 1⟩,⟨some 17, some (15, false),.load (.t 16) none⟩,⟨some 18, some (15, false),.call 107 [(.t 17), (.c (.int .i64 0)), (.c (.int .i64 999))]⟩,⟨some 19, some (15, false),.not (.t 18)⟩,⟨some 20,none,.pick (.t 15) (.c (.bool true)) (.t 19)⟩,⟨some 3,none,.mov (.t 20)⟩])
 (.ret))
def r127 : List Res := [.t 3]
def a127 : AFn := ⟨2, c127, r127,.r⟩
def c128 : ACode := .seq (.region [⟨some 3,none,.box (.t 0) 7⟩,⟨some 4,none,.mov (.c (.bool false))⟩])
 (.seq (.region [⟨some 5,none,.load (.t 1) none⟩,⟨some 6,none,.addr (.t 3) 0⟩,⟨some 7,none,.load (.t 6) none⟩,⟨some 8,none,.callv (.t 5) [(.t 7)]⟩,⟨some 9,none,.not (.t 8)⟩,⟨some 10,none,.mov (.t 9)⟩,⟨some 11, some (10, false),.load (.t 3) (some 7)⟩,⟨some 12, some (10, false),.load (.t 2) none⟩,⟨some 13, some (10, false),.call 129 [(.t 11), (.t 12)]⟩,⟨some 14, some (10, false),.not (.t 13)⟩,⟨some 15,none,.pick (.t 10) (.c (.bool true)) (.t 14)⟩,⟨some 4,none,.mov (.t 15)⟩])
 (.ret))
def r128 : List Res := [.t 4]
def a128 : AFn := ⟨3, c128, r128,.r⟩
def c129 : ACode := .seq (.region [⟨some 2,none,.box (.t 0) 7⟩,⟨some 3,none,.box (.t 1) 1⟩,⟨some 4,none,.mov (.c (.bool false))⟩])
 (.seq (.region [⟨some 6,none,.clo 161 [] [(.t 3)]⟩,⟨some 5,none,.mov (.t 6)⟩])
 (.seq (.region [⟨some 7,none,.addr (.t 2) 0⟩,⟨some 8,none,.load (.t 7) none⟩,⟨some 9,none,.call 108 [(.t 8)]⟩,⟨some 10,none,.mov (.t 9)⟩,⟨some 11, some (10, true),.addr (.t 2) 1⟩,⟨some 12, some (10, true),.load (.t 11) none⟩,⟨some 13, some (10, true),.call 108 [(.t 12)]⟩,⟨some 14,none,.pick (.t 10) (.t 13) (.c (.bool false))⟩,⟨some 15,none,.mov (.t 14)⟩,⟨some 16, some (15, true),.addr (.t 2) 2⟩,⟨some 17, some (15, true),.load (.t 16) none⟩,⟨some 18, some (15, true),.call 107 [(.t 17), (.c (.int .i64 0)), (.c (.int .i64 9))]⟩,⟨some 19,none,.pick (.t 15) (.t 18) (.c (.bool false))⟩,⟨some 20,none,.mov (.t 19)⟩,⟨some 21, some (20, true),.addr (.t 2) 3⟩,⟨some 22, some (20, true),.load (.t 21) none⟩,⟨some 23, some (20, true),.call 107 [(.t 22), (.c (.int .i64 0)), (.c (.int .i64 9))]⟩,⟨some 24,none,.pick (.t 20) (.t 23) (.c (.bool false))⟩,⟨some 25,none,.mov (.t 24)⟩,⟨some 26, some (25, true),.addr (.t 2) 4⟩,⟨some 27, some (25, true),.load (.t 26) none⟩,⟨some 28, some (25, true),.call 107 [(.t 27), (.c (.int .i64 1)), (.c (.int .i64 400))]⟩,⟨some 29,none,.pick (.t 25) (.t 28) (.c (.bool false))⟩,⟨some 30,none,.mov (.t 29)⟩,⟨some 31, some (30, true),.addr (.t 2) 6⟩,⟨some 32, some (30, true),.load (.t 31) none⟩,⟨some 33, some (30, true),.len (.t 32)⟩,⟨some 34, some (30, true),.bin .gtr (.t 33) (.c (.int .i64 0))⟩,⟨some 35,none,.pick (.t 30) (.t 34) (.c (.bool false))⟩,⟨some 36,none,.mov (.t 35)⟩,⟨some 37, some (36, true),.addr (.t 2) 6⟩,⟨some 38, some (36, true),.load (.t 37) none⟩,⟨some 39, some (36, true),.call 162 [(.t 38)]⟩,⟨some 40,none,.pick (.t 36) (.t 39) (.c (.bool false))⟩,⟨some 41,none,.mov (.t 40)⟩,⟨some 42, some (41, true),.addr (.t 2) 6⟩,⟨some 43, some (41, true),.load (.t 42) none⟩,⟨some 44, some (41, true),.mov (.t 5)⟩,⟨some 45, some (41, true),.call 134 [(.t 43), (.t 44)]⟩,⟨some 46, some (41, true),.not (.t 45)⟩,⟨some 47,none,.pick (.t 41) (.t 46) (.c (.bool false))⟩,⟨some 4,none,.mov (.t 47)⟩])
 (.ret)))
def r129 : List Res := [.t 4]
def a129 : AFn := ⟨2, c129, r129,.v⟩
def c130 : ACode := .seq (.region [⟨some 2,none,.box (.t 0) 3⟩,⟨some 3,none,.mov (.c (.bool false))⟩])
 (.seq (.region [⟨some 4,none,.load (.t 1) none⟩,⟨some 5,none,.addr (.t 2) 0⟩,⟨some 6,none,.load (.t 5) none⟩,⟨some 7,none,.callv (.t 4) [(.t 6)]⟩,⟨some 8,none,.not (.t 7)⟩,⟨some 9,none,.mov (.t 8)⟩,⟨some 10, some (9, false),.load (.t 2) (some 3)⟩,⟨some 11, some (9, false),.call 131 [(.t 10)]⟩,⟨some 12, some (9, false),.not (.t 11)⟩,⟨some 13,none,.pick (.t 9) (.c (.bool true)) (.t 12)⟩,⟨some 3,none,.mov (.t 13)⟩])
 (.ret))
def r130 : List Res := [.t 3]
def a130 : AFn := ⟨2, c130, r130,.r⟩
def c131 : ACode := .seq (.region [⟨some 1,none,.box (.t 0) 3⟩,⟨some 2,none,.mov (.c (.bool false))⟩])
 (.seq (.region [⟨some 3,none,.addr (.t 1) 0⟩,⟨some 4,none,.load (.t 3) none⟩,⟨some 5,none,.call 108 [(.t 4)]⟩,⟨some 6,none,.mov (.t 5)⟩,⟨some 7, some (6, true),.addr (.t 1) 1⟩,⟨some 8, some (6, true),.load (.t 7) none⟩,⟨some 9, some (6, true),.len (.t 8)⟩,⟨some 10, some (6, true),.call 107 [(.t 9), (.c (.int .i64 1)), (.c (.int .i64 6))]⟩,⟨some 11,none,.pick (.t 6) (.t 10) (.c (.bool false))⟩,⟨some 12,none,.mov (.t 11)⟩,⟨some 13, some (12, true),.addr (.t 1) 1⟩,⟨some 14, some (12, true),.load (.t 13) none⟩,⟨some 15, some (12, true),.call 162 [(.t 14)]⟩,⟨some 16,none,.pick (.t 12) (.t 15) (.c (.bool false))⟩,⟨some 17,none,.mov (.t 16)⟩,⟨some 18, some (17, true),.addr (.t 1) 2⟩,⟨some 19, some (17, true),.load (.t 18) none⟩,⟨some 20, some (17, true),.len (.t 19)⟩,⟨some 21, some (17, true),.bin .leq (.t 20) (.c (.int .i64 20))⟩,⟨some 22,none,.pick (.t 17) (.t 21) (.c (.bool false))⟩,⟨some 23,none,.mov (.t 22)⟩,⟨some 24, some (23, true),.addr (.t 1) 2⟩,⟨some 25, some (23, true),.load (.t 24) none⟩,⟨some 26, some (23, true),.call 99 [(.t 25)]⟩,⟨some 27,none,.pick (.t 23) (.t 26) (.c (.bool false))⟩,⟨some 2,none,.mov (.t 27)⟩])
 (.ret))
def r131 : List Res := [.t 2]
def a131 : AFn := ⟨1, c131, r131,.v⟩
def c132 : ACode := .seq (.region [⟨some 1,none,.box (.t 0) 5⟩,⟨some 2,none,.mov (.c (.bool false))⟩])
 (.seq (.region [⟨some 3,none,.load (.t 1) (some 5)⟩,⟨some 4,none,.call 133 [(.t 3)]⟩,⟨some 5,none,.not (.t 4)⟩,⟨some 2,none,.mov (.t 5)⟩])
 (.ret))
def r132 : List Res := [.t 2]
def a132 : AFn := ⟨1, c132, r132,.v⟩
def c133 : ACode := .seq (.region [⟨some 1,none,.box (.t 0) 5⟩,⟨some 2,none,.mov (.c (.bool false))⟩])
 (.seq (.region [⟨some 3,none,.addr (.t 1) 0⟩,⟨some 4,none,.load (.t 3) none⟩,⟨some 5,none,.call 108 [(.t 4)]⟩,⟨some 6,none,.mov (.t 5)⟩,⟨some 7, some (6, true),.addr (.t 1) 1⟩,⟨some 8, some (6, true),.load (.t 7) none⟩,⟨some 9, some (6, true),.call 108 [(.t 8)]⟩,⟨some 10,none,.pick (.t 6) (.t 9) (.c (.bool false))⟩,⟨some 11,none,.mov (.t 10)⟩,⟨some 12, some (11, true),.addr (.t 1) 2⟩,⟨some 13, some (11, true),.load (.t 12) none⟩,⟨some 14, some (11, true),.len (.t 13)⟩,⟨some 15, some (11, true),.bin .leq (.t 14) (.c (.int .i64 12))⟩,⟨some 16,none,.pick (.t 11) (.t 15) (.c (.bool false))⟩,⟨some 17,none,.mov (.t 16)⟩,⟨some 18, some (17, true),.addr (.t 1) 2⟩,⟨some 19, some (17, true),.load (.t 18) none⟩,⟨some 20, some (17, true),.call 162 [(.t 19)]⟩,⟨some 21,none,.pick (.t 17) (.t 20) (.c (.bool false))⟩,⟨some 22,none,.mov (.t 21)⟩,⟨some 23, some (22, true),.addr (.t 1) 3⟩,⟨some 24, some (22, true),.load (.t 23) none⟩,⟨some 25, some (22, true),.call 68 [(.t 24)]⟩,⟨some 26,none,.pick (.t 22) (.t 25) (.c (.bool false))⟩,⟨some 27,none,.mov (.t 26)⟩,⟨some 28, some (27, true),.addr (.t 1) 4⟩,⟨some 29, some (27, true),.load (.t 28) none⟩,⟨some 30, some (27, true),.call 68 [(.t 29)]⟩,⟨some 31,none,.pick (.t 27) (.t 30) (.c (.bool false))⟩,⟨some 32,none,.mov (.t 31)⟩,⟨some 33, some (32, true),.addr (.t 1) 3⟩,⟨some 34, some (32, true),.load (.t 33) none⟩,⟨some 35, some (32, true),.addr (.t 1) 4⟩,⟨some 36, some (32, true),.load (.t 35) none⟩,⟨some 37, some (32, true),.bin .leq (.t 34) (.t 36)⟩,⟨some 38,none,.pick (.t 32) (.t 37) (.c (.bool false))⟩,⟨some 2,none,.mov (.t 38)⟩])
 (.ret))
def r133 : List Res := [.t 2]
def a133 : AFn := ⟨1, c133, r133,.v⟩
def c134 : ACode := .seq (.region [⟨some 4,none,.mov (.c (.bool false))⟩])
 (.seq (.region [⟨some 5,none,.mov (.t 0)⟩,⟨some 6,none,.mov (.t 1)⟩,⟨some 7,none,.call 163 [(.t 5), (.t 6)]⟩,⟨some 8,none,.bin .geq (.t 7) (.c (.int .i64 0))⟩,⟨some 4,none,.mov (.t 8)⟩])
 (.ret))
def r134 : List Res := [.t 4]
def a134 : AFn := ⟨2, c134, r134,.v⟩
def c135 : ACode := .seq (.region [⟨some 2,none,.mov (.c (.bool false))⟩])
 (.seq (.region [⟨some 3,none,.mov (.t 0)⟩,⟨some 4,none,.call 108 [(.t 3)]⟩,⟨some 5,none,.not (.t 4)⟩,⟨some 2,none,.mov (.t 5)⟩])
 (.ret))
def r135 : List Res := [.t 2]
def a135 : AFn := ⟨1, c135, r135,.v⟩
def c136 : ACode := .seq (.region [⟨some 3,none,.box (.t 1) 1⟩,⟨some 4,none,.new (.agg [(.int .i64 0), (.int .i64 0)]) 2⟩,⟨some 5,none,.mov (.c (.bool false))⟩])
 (.seq (.region [⟨some 6,none,.mov (.t 0)⟩,⟨some 7,none,.clo 164 [] [(.t 3)]⟩,⟨some 8,none,.call 126 [(.t 6), (.t 7)]⟩,⟨some 9,none,.ext (.t 8) 0⟩,⟨some 10,none,.ext (.t 8) 1⟩,⟨none,none,.store (.t 4) (.t 9) 2⟩,⟨some 5,none,.mov (.t 10)⟩])
 (.ret))
def r136 : List Res := [.cell 4 (some 2),.t 5]
def a136 : AFn := ⟨2, c136, r136,.v⟩
def c137 : ACode := .seq (.region [⟨some 3,none,.box (.t 1) 2⟩,⟨some 4,none,.mov (.c (.bool false))⟩])
 (.seq (.region [⟨some 5,none,.mov (.t 0)⟩,⟨some 6,none,.load (.t 3) (some 2)⟩,⟨some 7,none,.call 165 [(.t 5), (.t 6)]⟩,⟨some 8,none,.bin .geq (.t 7) (.c (.int .i64 0))⟩,⟨some 4,none,.mov (.t 8)⟩])
 (.ret))
def r137 : List Res := [.t 4]
def a137 : AFn := ⟨2, c137, r137,.v⟩
def c138 : ACode := .seq (.region [⟨some 4,none,.mov (.c (.int .i64 0))⟩])
 (.seq (.seq (.region [⟨some 6,none,.mov (.t 0)⟩,⟨some 7,none,.len (.t 6)⟩,⟨some 8,none,.mov (.c (.int .i64 0))⟩])
 (.block 0 (.loop (.seq (.region [⟨some 9,none,.bin .lss (.t 8) (.t 7)⟩])
 (.seq (.cond (.t 9) (.skip)
 (.exit 0))
 (.seq (.block 1 (.seq (.region [⟨some 10,none,.mov (.t 8)⟩,⟨some 5,none,.mov (.t 10)⟩])
 (.seq (.region [⟨some 11,none,.mov (.t 1)⟩,⟨some 12,none,.mov (.t 0)⟩,⟨some 13,none,.mov (.t 5)⟩,⟨some 14,none,.idx (.t 12) (.t 13) 1⟩,⟨some 15,none,.load (.t 14) none⟩,⟨some 16,none,.bin .eql (.t 11) (.t 15)⟩])
 (.cond (.t 16) (.seq (.region [⟨some 17,none,.mov (.t 5)⟩,⟨some 4,none,.mov (.t 17)⟩])
 (.ret))
 (.skip)))))
 (.region [⟨some 18,none,.bin .add (.t 8) (.c (.int .i64 1))⟩,⟨some 8,none,.mov (.t 18)⟩])))))))
 (.seq (.region [⟨some 4,none,.mov (.c (.int .i64 (-1)))⟩])
 (.ret)))
def r138 : List Res := [.t 4]
def a138 : AFn := ⟨2, c138, r138,.v⟩
def c139 : ACode := .seq (.region [⟨some 2,none,.box (.t 0) 5⟩,⟨some 3,none,.box (.t 1) 5⟩,⟨some 4,none,.mov (.c (.int .i64 0))⟩])
 (.seq (.region [⟨some 5,none,.addr (.t 2) 3⟩,⟨some 6,none,.load (.t 5) none⟩,⟨some 7,none,.addr (.t 3) 3⟩,⟨some 8,none,.load (.t 7) none⟩,⟨some 9,none,.call 76 [(.t 6), (.t 8)]⟩,⟨some 4,none,.mov (.t 9)⟩])
 (.ret))
def r139 : List Res := [.t 4]
def a139 : AFn := ⟨2, c139, r139,.v⟩
def c140 : ACode := .seq (.region [⟨some 4,none,.mov (.c (.sl [] .tight))⟩])
 (.seq (.region [⟨some 6,none,.mov (.t 0)⟩,⟨some 7,none,.call 166 [(.t 6)]⟩,⟨some 5,none,.mov (.t 7)⟩])
 (.seq (.region [⟨some 8,none,.mov (.t 5)⟩,⟨some 9,none,.mov (.t 1)⟩,⟨some 10,none,.call 83 [(.t 8), (.t 9)]⟩])
 (.seq (.region [⟨some 11,none,.mov (.t 5)⟩,⟨some 4,none,.mov (.t 11)⟩])
 (.ret))))
def r140 : List Res := [.t 4]
def a140 : AFn := ⟨2, c140, r140,.v⟩
def c141 : ACode := .seq (.region [⟨some 1,none,.box (.t 0) 1⟩,⟨some 2,none,.mov (.c .nilf)⟩])
 (.seq (.region [⟨some 3,none,.clo 167 [] [(.t 1)]⟩,⟨some 2,none,.mov (.t 3)⟩])
 (.ret))
def r141 : List Res := [.t 2]
def a141 : AFn := ⟨1, c141, r141,.v⟩
def c151 : ACode := .seq (.region [⟨some 2,none,.mov (.c (.int .i64 0))⟩])
 (.seq (.seq (.region [⟨some 3,none,.mov (.t 0)⟩,⟨some 4,none,.bin .geq (.t 3) (.c (.int .u32 65536))⟩])
 (.cond (.t 4) (.seq (.region [⟨some 5,none,.mov (.t 0)⟩,⟨some 6,none,.bin .shr (.t 5) (.c (.int .u64 16))⟩,⟨some 0,none,.mov (.t 6)⟩])
 (.region [⟨some 2,none,.mov (.c (.int .i64 16))⟩]))
 (.skip)))
 (.seq (.seq (.region [⟨some 7,none,.mov (.t 0)⟩,⟨some 8,none,.bin .geq (.t 7) (.c (.int .u32 256))⟩])
 (.cond (.t 8) (.seq (.region [⟨some 9,none,.mov (.t 0)⟩,⟨some 10,none,.bin .shr (.t 9) (.c (.int .u64 8))⟩,⟨some 0,none,.mov (.t 10)⟩])
 (.region [⟨some 11,none,.mov (.t 2)⟩,⟨some 12,none,.bin .add (.t 11) (.c (.int .i64 8))⟩,⟨some 2,none,.mov (.t 12)⟩]))
 (.skip)))
 (.seq (.region [⟨some 13,none,.mov (.t 2)⟩,⟨some 14,none,.mov (.t 0)⟩,⟨some 15,none,.conv .u8 (.t 14)⟩,⟨some 16,none,.sidx (.c (.str ⟨#[0, 1, 2, 2, 3, 3, 3, 3, 4, 4, 4, 4, 4, 4, 4, 4, 5, 5, 5, 5, 5, 5, 5, 5, 5, 5, 5, 5, 5, 5, 5, 5, 6, 6, 6, 6, 6, 6, 6, 6, 6, 6, 6, 6, 6, 6, 6, 6, 6, 6, 6, 6, 6, 6, 6, 6, 6, 6, 6, 6, 6, 6, 6, 6, 7, 7, 7, 7, 7, 7, 7, 7, 7, 7, 7, 7, 7, 7, 7, 7, 7, 7, 7, 7, 7, 7, 7, 7, 7, 7, 7, 7, 7, 7, 7, 7, 7, 7, 7, 7, 7, 7, 7, 7, 7, 7, 7, 7, 7, 7, 7, 7, 7, 7, 7, 7, 7, 7, 7, 7, 7, 7, 7, 7, 7, 7, 7, 7, 8, 8, 8, 8, 8, 8, 8, 8, 8, 8, 8, 8, 8, 8, 8, 8, 8, 8, 8, 8, 8, 8, 8, 8, 8, 8, 8, 8, 8, 8, 8, 8, 8, 8, 8, 8, 8, 8, 8, 8, 8, 8, 8, 8, 8, 8, 8, 8, 8, 8, 8, 8, 8, 8, 8, 8, 8, 8, 8, 8, 8, 8, 8, 8, 8, 8, 8, 8, 8, 8, 8, 8, 8, 8, 8, 8, 8, 8, 8, 8, 8, 8, 8, 8, 8, 8, 8, 8, 8, 8, 8, 8, 8, 8, 8, 8, 8, 8, 8, 8, 8, 8, 8, 8, 8, 8, 8, 8, 8, 8, 8, 8, 8, 8, 8, 8, 8, 8, 8, 8, 8, 8, 8, 8, 8, 8, 8, 8]⟩)) (.t 15)⟩,⟨some 17,none,.conv .i64 (.t 16)⟩,⟨some 18,none,.bin .add (.t 13) (.t 17)⟩,⟨some 2,none,.mov (.t 18)⟩])
 (.ret))))
def r151 : List Res := [.t 2]
def a151 : AFn := ⟨1, c151, r151,.v⟩
def c152 : ACode := .seq (.region [⟨some 2,none,.mov (.c (.int .i64 0))⟩])
 (.seq (.seq (.region [⟨some 3,none,.mov (.t 0)⟩,⟨some 4,none,.bin .geq (.t 3) (.c (.int .u64 4294967296))⟩])
 (.cond (.t 4) (.seq (.region [⟨some 5,none,.mov (.t 0)⟩,⟨some 6,none,.bin .shr (.t 5) (.c (.int .u64 32))⟩,⟨some 0,none,.mov (.t 6)⟩])
 (.region [⟨some 2,none,.mov (.c (.int .i64 32))⟩]))
 (.skip)))
 (.seq (.seq (.region [⟨some 7,none,.mov (.t 0)⟩,⟨some 8,none,.bin .geq (.t 7) (.c (.int .u64 65536))⟩])
 (.cond (.t 8) (.seq (.region [⟨some 9,none,.mov (.t 0)⟩,⟨some 10,none,.bin .shr (.t 9) (.c (.int .u64 16))⟩,⟨some 0,none,.mov (.t 10)⟩])
 (.region [⟨some 11,none,.mov (.t 2)⟩,⟨some 12,none,.bin .add (.t 11) (.c (.int .i64 16))⟩,⟨some 2,none,.mov (.t 12)⟩]))
 (.skip)))
 (.seq (.seq (.region [⟨some 13,none,.mov (.t 0)⟩,⟨some 14,none,.bin .geq (.t 13) (.c (.int .u64 256))⟩])
 (.cond (.t 14) (.seq (.region [⟨some 15,none,.mov (.t 0)⟩,⟨some 16,none,.bin .shr (.t 15) (.c (.int .u64 8))⟩,⟨some 0,none,.mov (.t 16)⟩])
 (.region [⟨some 17,none,.mov (.t 2)⟩,⟨some 18,none,.bin .add (.t 17) (.c (.int .i64 8))⟩,⟨some 2,none,.mov (.t 18)⟩]))
 (.skip)))
 (.seq (.region [⟨some 19,none,.mov (.t 2)⟩,⟨some 20,none,.mov (.t 0)⟩,⟨some 21,none,.conv .u8 (.t 20)⟩,⟨some 22,none,.sidx (.c (.str ⟨#[0, 1, 2, 2, 3, 3, 3, 3, 4, 4, 4, 4, 4, 4, 4, 4, 5, 5, 5, 5, 5, 5, 5, 5, 5, 5, 5, 5, 5, 5, 5, 5, 6, 6, 6, 6, 6, 6, 6, 6, 6, 6, 6, 6, 6, 6, 6, 6, 6, 6, 6, 6, 6, 6, 6, 6, 6, 6, 6, 6, 6, 6, 6, 6, 7, 7, 7, 7, 7, 7, 7, 7, 7, 7, 7, 7, 7, 7, 7, 7, 7, 7, 7, 7, 7, 7, 7, 7, 7, 7, 7, 7, 7, 7, 7, 7, 7, 7, 7, 7, 7, 7, 7, 7, 7, 7, 7, 7, 7, 7, 7, 7, 7, 7, 7, 7, 7, 7, 7, 7, 7, 7, 7, 7, 7, 7, 7, 7, 8, 8, 8, 8, 8, 8, 8, 8, 8, 8, 8, 8, 8, 8, 8, 8, 8, 8, 8, 8, 8, 8, 8, 8, 8, 8, 8, 8, 8, 8, 8, 8, 8, 8, 8, 8, 8, 8, 8, 8, 8, 8, 8, 8, 8, 8, 8, 8, 8, 8, 8, 8, 8, 8, 8, 8, 8, 8, 8, 8, 8, 8, 8, 8, 8, 8, 8, 8, 8, 8, 8, 8, 8, 8, 8, 8, 8, 8, 8, 8, 8, 8, 8, 8, 8, 8, 8, 8, 8, 8, 8, 8, 8, 8, 8, 8, 8, 8, 8, 8, 8, 8, 8, 8, 8, 8, 8, 8, 8, 8, 8, 8, 8, 8, 8, 8, 8, 8, 8, 8, 8, 8, 8, 8, 8, 8, 8, 8]⟩)) (.t 21)⟩,⟨some 23,none,.conv .i64 (.t 22)⟩,⟨some 24,none,.bin .add (.t 19) (.t 23)⟩,⟨some 2,none,.mov (.t 24)⟩])
 (.ret)))))
def r152 : List Res := [.t 2]
def a152 : AFn := ⟨1, c152, r152,.v⟩
def c153 : ACode := Srt.insertionSortF 5 (some 5)
def r153 : List Res := []
def a153 : AFn := ⟨4, c153, r153,.r⟩
def c154 : ACode := Srt.heapSortF 5 (some 5) 173
def r154 : List Res := []
def a154 : AFn := ⟨4, c154, r154,.r⟩
def c155 : ACode := Srt.breakPatternsF 5 (some 5) 169 170
def r155 : List Res := []
def a155 : AFn := ⟨4, c155, r155,.r⟩
def c156 : ACode := Srt.choosePivotF 5 (some 5) 175 174
def r156 : List Res := [.t 8,.t 9]
def a156 : AFn := ⟨4, c156, r156,.r⟩
def c157 : ACode := Srt.reverseRangeF 5 (some 5)
def r157 : List Res := []
def a157 : AFn := ⟨4, c157, r157,.r⟩
def c158 : ACode := Srt.partialInsertionSortF 5 (some 5)
def r158 : List Res := [.t 8]
def a158 : AFn := ⟨4, c158, r158,.r⟩
def c159 : ACode := Srt.partitionEqualF 5 (some 5)
def r159 : List Res := [.t 10]
def a159 : AFn := ⟨5, c159, r159,.r⟩
def c160 : ACode := Srt.partitionF 5 (some 5)
def r160 : List Res := [.t 10,.t 11]
def a160 : AFn := ⟨5, c160, r160,.r⟩
def c161 : ACode := .seq (.region [⟨some 3,none,.mov (.c (.bool false))⟩])
 (.seq (.region [⟨some 7,none,.load (.t 1) none⟩,⟨some 8,none,.mov (.t 0)⟩,⟨some 9,none,.call 136 [(.t 7), (.t 8)]⟩,⟨some 6,none,.mov (.t 9)⟩,⟨some 10,none,.ext (.t 6) 0⟩,⟨some 11,none,.ext (.t 6) 1⟩,⟨some 4,none,.new (.agg [(.int .i64 0), (.int .i64 0)]) 2⟩,⟨none,none,.store (.t 4) (.t 10) 2⟩,⟨some 5,none,.mov (.t 11)⟩])
 (.seq (.region [⟨some 12,none,.mov (.t 5)⟩,⟨some 13,none,.not (.t 12)⟩,⟨some 3,none,.mov (.t 13)⟩])
 (.ret)))
def r161 : List Res := [.t 3]
def a161 : AFn := ⟨2, c161, r161,.v⟩
def c162 : ACode := .seq (.region [⟨some 2,none,.mov (.c (.bool false))⟩])
 (.seq (.seq (.region [⟨some 5,none,.mov (.t 0)⟩,⟨some 6,none,.len (.t 5)⟩,⟨some 7,none,.mov (.c (.int .i64 0))⟩])
 (.block 0 (.loop (.seq (.region [⟨some 8,none,.bin .lss (.t 7) (.t 6)⟩])
 (.seq (.cond (.t 8) (.skip)
 (.exit 0))
 (.seq (.block 1 (.seq (.region [⟨some 9,none,.mov (.t 7)⟩,⟨some 10,none,.idx (.t 5) (.t 7) 1⟩,⟨some 11,none,.load (.t 10) none⟩,⟨some 3,none,.mov (.t 9)⟩,⟨some 4,none,.mov (.t 11)⟩])
 (.seq (.region [⟨some 12,none,.mov (.t 4)⟩,⟨some 13,none,.call 108 [(.t 12)]⟩,⟨some 14,none,.not (.t 13)⟩,⟨some 15,none,.mov (.t 14)⟩,⟨some 16, some (15, false),.mov (.t 3)⟩,⟨some 17, some (15, false),.bin .gtr (.t 16) (.c (.int .i64 0))⟩,⟨some 18, some (15, false),.mov (.t 17)⟩,⟨some 19, some (18, true),.mov (.t 4)⟩,⟨some 20, some (18, true),.mov (.t 0)⟩,⟨some 21, some (18, true),.mov (.t 3)⟩,⟨some 22, some (18, true),.bin .sub (.t 21) (.c (.int .i64 1))⟩,⟨some 23, some (18, true),.idx (.t 20) (.t 22) 1⟩,⟨some 24, some (18, true),.load (.t 23) none⟩,⟨some 25, some (18, true),.bin .leq (.t 19) (.t 24)⟩,⟨some 26, some (15, false),.pick (.t 18) (.t 25) (.c (.bool false))⟩,⟨some 27,none,.pick (.t 15) (.c (.bool true)) (.t 26)⟩])
 (.cond (.t 27) (.seq (.region [⟨some 2,none,.mov (.c (.bool false))⟩])
 (.ret))
 (.skip)))))
 (.region [⟨some 28,none,.bin .add (.t 7) (.c (.int .i64 1))⟩,⟨some 7,none,.mov (.t 28)⟩])))))))
 (.seq (.region [⟨some 2,none,.mov (.c (.bool true))⟩])
 (.ret)))
def r162 : List Res := [.t 2]
def a162 : AFn := ⟨1, c162, r162,.v⟩
def c163 : ACode := .seq (.region [⟨some 4,none,.mov (.c (.int .i64 0))⟩])
 (.seq (.seq (.region [⟨some 6,none,.mov (.t 0)⟩,⟨some 7,none,.len (.t 6)⟩,⟨some 8,none,.mov (.c (.int .i64 0))⟩])
 (.block 0 (.loop (.seq (.region [⟨some 9,none,.bin .lss (.t 8) (.t 7)⟩])
 (.seq (.cond (.t 9) (.skip)
 (.exit 0))
 (.seq (.block 1 (.seq (.region [⟨some 10,none,.mov (.t 8)⟩,⟨some 5,none,.mov (.t 10)⟩])
 (.seq (.region [⟨some 11,none,.mov (.t 1)⟩,⟨some 12,none,.mov (.t 0)⟩,⟨some 13,none,.mov (.t 5)⟩,⟨some 14,none,.idx (.t 12) (.t 13) 1⟩,⟨some 15,none,.load (.t 14) none⟩,⟨some 16,none,.callv (.t 11) [(.t 15)]⟩])
 (.cond (.t 16) (.seq (.region [⟨some 17,none,.mov (.t 5)⟩,⟨some 4,none,.mov (.t 17)⟩])
 (.ret))
 (.skip)))))
 (.region [⟨some 18,none,.bin .add (.t 8) (.c (.int .i64 1))⟩,⟨some 8,none,.mov (.t 18)⟩])))))))
 (.seq (.region [⟨some 4,none,.mov (.c (.int .i64 (-1)))⟩])
 (.ret)))
def r163 : List Res := [.t 4]
def a163 : AFn := ⟨2, c163, r163,.v⟩
def c164 : ACode := .seq (.region [⟨some 2,none,.box (.t 0) 2⟩,⟨some 3,none,.mov (.c (.bool false))⟩])
 (.seq (.region [⟨some 4,none,.addr (.t 2) 0⟩,⟨some 5,none,.load (.t 4) none⟩,⟨some 6,none,.load (.t 1) none⟩,⟨some 7,none,.bin .eql (.t 5) (.t 6)⟩,⟨some 3,none,.mov (.t 7)⟩])
 (.ret))
def r164 : List Res := [.t 3]
def a164 : AFn := ⟨2, c164, r164,.v⟩
def c165 : ACode := .seq (.region [⟨some 3,none,.box (.t 1) 2⟩,⟨some 4,none,.mov (.c (.int .i64 0))⟩])
 (.seq (.seq (.region [⟨some 6,none,.mov (.t 0)⟩,⟨some 7,none,.len (.t 6)⟩,⟨some 8,none,.mov (.c (.int .i64 0))⟩])
 (.block 0 (.loop (.seq (.region [⟨some 9,none,.bin .lss (.t 8) (.t 7)⟩])
 (.seq (.cond (.t 9) (.skip)
 (.exit 0))
 (.seq (.block 1 (.seq (.region [⟨some 10,none,.mov (.t 8)⟩,⟨some 5,none,.mov (.t 10)⟩])
 (.seq (.region [⟨some 11,none,.load (.t 3) (some 2)⟩,⟨some 12,none,.mov (.t 0)⟩,⟨some 13,none,.mov (.t 5)⟩,⟨some 14,none,.idx (.t 12) (.t 13) 2⟩,⟨some 15,none,.load (.t 14) (some 2)⟩,⟨some 16,none,.eqv false true [.i,.i] (.t 11) (.t 15)⟩])
 (.cond (.t 16) (.seq (.region [⟨some 17,none,.mov (.t 5)⟩,⟨some 4,none,.mov (.t 17)⟩])
 (.ret))
 (.skip)))))
 (.region [⟨some 18,none,.bin .add (.t 8) (.c (.int .i64 1))⟩,⟨some 8,none,.mov (.t 18)⟩])))))))
 (.seq (.region [⟨some 4,none,.mov (.c (.int .i64 (-1)))⟩])
 (.ret)))
def r165 : List Res := [.t 4]
def a165 : AFn := ⟨2, c165, r165,.v⟩
def c166 : ACode := .seq (.region [⟨some 2,none,.mov (.c (.sl [] .tight))⟩])
 (.seq (.region [⟨some 3,none,.mov (.t 0)⟩,⟨some 4,none,.call 176 [(.c (.sl [] .tight)), (.t 3)]⟩,⟨some 2,none,.mov (.t 4)⟩])
 (.ret))
def r166 : List Res := [.t 2]
def a166 : AFn := ⟨1, c166, r166,.r⟩
def c167 : ACode := .seq (.region [⟨some 5,none,.load (.t 1) none⟩,⟨some 6,none,.len (.t 5)⟩,⟨some 7,none,.mov (.c (.int .i64 0))⟩])
 (.block 0 (.loop (.seq (.region [⟨some 8,none,.bin .lss (.t 7) (.t 6)⟩])
 (.seq (.cond (.t 8) (.skip)
 (.exit 0))
 (.seq (.block 1 (.seq (.region [⟨some 9,none,.idx (.t 5) (.t 7) 5⟩,⟨some 10,none,.load (.t 9) (some 5)⟩,⟨some 4,none,.new (.agg [(.int .i64 0), (.int .i64 0), (.sl [] .tight), (.int .i64 0), (.int .i64 0)]) 5⟩,⟨none,none,.store (.t 4) (.t 10) 5⟩])
 (.seq (.region [⟨some 11,none,.mov (.t 0)⟩,⟨some 12,none,.load (.t 4) (some 5)⟩,⟨some 13,none,.callv (.t 11) [(.t 12)]⟩,⟨some 14,none,.not (.t 13)⟩])
 (.cond (.t 14) (.ret)
 (.skip)))))
 (.region [⟨some 15,none,.bin .add (.t 7) (.c (.int .i64 1))⟩,⟨some 7,none,.mov (.t 15)⟩]))))))
def r167 : List Res := []
def a167 : AFn := ⟨2, c167, r167,.v⟩
def c169 : ACode := .seq (.region [⟨some 2,none,.mov (.c (.int .u64 0))⟩])
 (.seq (.region [⟨some 3,none,.mov (.t 0)⟩,⟨some 4,none,.conv .u64 (.t 3)⟩,⟨some 5,none,.call 114 [(.t 4)]⟩,⟨some 6,none,.bin .shl (.c (.int .u64 1)) (.t 5)⟩,⟨some 2,none,.mov (.t 6)⟩])
 (.ret))
def r169 : List Res := [.t 2]
def a169 : AFn := ⟨1, c169, r169,.v⟩
def c170 : ACode := .seq (.region [⟨some 2,none,.mov (.c (.int .u64 0))⟩])
 (.seq (.region [⟨some 3,none,.mov (.t 0)⟩,⟨some 4,none,.addr (.t 3) 0⟩,⟨some 5,none,.load (.t 4) none⟩,⟨some 6,none,.mov (.t 0)⟩,⟨some 7,none,.addr (.t 6) 0⟩,⟨some 8,none,.load (.t 7) none⟩,⟨some 9,none,.bin .shl (.t 8) (.c (.int .u64 13))⟩,⟨some 10,none,.bin .xor (.t 5) (.t 9)⟩,⟨some 11,none,.addr (.t 3) 0⟩,⟨none,none,.store (.t 11) (.t 10) 1⟩])
 (.seq (.region [⟨some 12,none,.mov (.t 0)⟩,⟨some 13,none,.addr (.t 12) 0⟩,⟨some 14,none,.load (.t 13) none⟩,⟨some 15,none,.mov (.t 0)⟩,⟨some 16,none,.addr (.t 15) 0⟩,⟨some 17,none,.load (.t 16) none⟩,⟨some 18,none,.bin .shr (.t 17) (.c (.int .u64 7))⟩,⟨some 19,none,.bin .xor (.t 14) (.t 18)⟩,⟨some 20,none,.addr (.t 12) 0⟩,⟨none,none,.store (.t 20) (.t 19) 1⟩])
 (.seq (.region [⟨some 21,none,.mov (.t 0)⟩,⟨some 22,none,.addr (.t 21) 0⟩,⟨some 23,none,.load (.t 22) none⟩,⟨some 24,none,.mov (.t 0)⟩,⟨some 25,none,.addr (.t 24) 0⟩,⟨some 26,none,.load (.t 25) none⟩,⟨some 27,none,.bin .shl (.t 26) (.c (.int .u64 17))⟩,⟨some 28,none,.bin .xor (.t 23) (.t 27)⟩,⟨some 29,none,.addr (.t 21) 0⟩,⟨none,none,.store (.t 29) (.t 28) 1⟩])
 (.seq (.region [⟨some 30,none,.mov (.t 0)⟩,⟨some 31,none,.addr (.t 30) 0⟩,⟨some 32,none,.load (.t 31) none⟩,⟨some 2,none,.mov (.t 32)⟩])
 (.ret)))))
def r170 : List Res := [.t 2]
def a170 : AFn := ⟨1, c170, r170,.r⟩
def c173 : ACode := Srt.siftDownF 5 (some 5)
def r173 : List Res := []
def a173 : AFn := ⟨5, c173, r173,.r⟩
def c174 : ACode := Srt.medianAdjacentF 5 (some 5) 175
def r174 : List Res := [.t 8]
def a174 : AFn := ⟨4, c174, r174,.r⟩
def c175 : ACode := Srt.medianF 5 (some 5) 178
def r175 : List Res := [.t 12]
def a175 : AFn := ⟨6, c175, r175,.r⟩
def c176 : ACode := .seq (.region [⟨some 2,none,.box (.t 0) 1⟩,⟨some 4,none,.mov (.c (.sl [] .tight))⟩])
 (.seq (.seq (.region [⟨some 6,none,.mov (.t 1)⟩])
 (.block 0 (.range (.t 6) [7] (.region [⟨some 5,none,.new (.agg [(.int .i64 0), (.int .i64 0), (.sl [] .tight), (.int .i64 0), (.int .i64 0)]) 5⟩,⟨none,none,.store (.t 5) (.t 7) 5⟩])
 (.block 1 (.region [⟨some 8,none,.load (.t 2) none⟩,⟨some 9,none,.load (.t 5) (some 5)⟩,⟨some 10,none,.lit true 37 5 [(.t 9)]⟩,⟨some 11,none,.app true (.t 8) (.t 10) 37 5 56⟩,⟨none,none,.store (.t 2) (.t 11) 1⟩])))))
 (.seq (.region [⟨some 12,none,.load (.t 2) none⟩,⟨some 4,none,.mov (.t 12)⟩])
 (.ret)))
def r176 : List Res := [.t 4]
def a176 : AFn := ⟨2, c176, r176,.r⟩
def c178 : ACode := Srt.order2F 5 (some 5)
def r178 : List Res := [.t 10,.t 11]
def a178 : AFn := ⟨5, c178, r178,.r⟩
def ft : FuncId → Option AFn
 | 4 => some a4
 | 5 => some a5
 | 6 => some a6
 | 8 => some a8
 | 9 => some a9
 | 14 => some a14
 | 15 => some a15
 | 16 => some a16
 | 17 => some a17
 | 18 => some a18
 | 21 => some a21
 | 22 => some a22
 | 23 => some a23
 | 24 => some a24
 | 25 => some a25
 | 26 => some a26
 | 27 => some a27
 | 28 => some a28
 | 29 => some a29
 | 31 => some a31
 | 32 => some a32
 | 35 => some a35
 | 42 => some a42
 | 43 => some a43
 | 44 => some a44
 | 50 => some a50
 | 54 => some a54
 | 55 => some a55
 | 56 => some a56
 | 57 => some a57
 | 58 => some a58
 | 59 => some a59
 | 60 => some a60
 | 61 => some a61
 | 67 => some a67
 | 68 => some a68
 | 71 => some a71
 | 73 => some a73
 | 75 => some a75
 | 76 => some a76
 | 77 => some a77
 | 78 => some a78
 | 79 => some a79
 | 81 => some a81
 | 82 => some a82
 | 83 => some a83
 | 86 => some a86
 | 93 => some a93
 | 94 => some a94
 | 95 => some a95
 | 96 => some a96
 | 97 => some a97
 | 98 => some a98
 | 99 => some a99
 | 100 => some a100
 | 101 => some a101
 | 102 => some a102
 | 103 => some a103
 | 104 => some a104
 | 105 => some a105
 | 106 => some a106
 | 107 => some a107
 | 108 => some a108
 | 110 => some a110
 | 111 => some a111
 | 112 => some a112
 | 114 => some a114
 | 115 => some a115
 | 116 => some a116
 | 117 => some a117
 | 118 => some a118
 | 119 => some a119
 | 120 => some a120
 | 121 => some a121
 | 122 => some a122
 | 123 => some a123
 | 124 => some a124
 | 125 => some a125
 | 126 => some a126
 | 127 => some a127
 | 128 => some a128
 | 129 => some a129
 | 130 => some a130
 | 131 => some a131
 | 132 => some a132
 | 133 => some a133
 | 134 => some a134
 | 135 => some a135
 | 136 => some a136
 | 137 => some a137
 | 138 => some a138
 | 139 => some a139
 | 140 => some a140
 | 141 => some a141
 | 151 => some a151
 | 152 => some a152
 | 153 => some a153
 | 154 => some a154
 | 155 => some a155
 | 156 => some a156
 | 157 => some a157
 | 158 => some a158
 | 159 => some a159
 | 160 => some a160
 | 161 => some a161
 | 162 => some a162
 | 163 => some a163
 | 164 => some a164
 | 165 => some a165
 | 166 => some a166
 | 167 => some a167
 | 169 => some a169
 | 170 => some a170
 | 173 => some a173
 | 174 => some a174
 | 175 => some a175
 | 176 => some a176
 | 178 => some a178
 | _ => none
theorem ft8 : ft 8 = some a8 := rfl
theorem ft14 : ft 14 = some a14 := rfl
theorem ft15 : ft 15 = some a15 := rfl
theorem ft16 : ft 16 = some a16 := rfl
theorem ft17 : ft 17 = some a17 := rfl
theorem ft18 : ft 18 = some a18 := rfl
theorem ft21 : ft 21 = some a21 := rfl
theorem ft22 : ft 22 = some a22 := rfl
theorem ft23 : ft 23 = some a23 := rfl
theorem ft24 : ft 24 = some a24 := rfl
theorem ft26 : ft 26 = some a26 := rfl
theorem ft27 : ft 27 = some a27 := rfl
theorem ft29 : ft 29 = some a29 := rfl
theorem ft31 : ft 31 = some a31 := rfl
theorem ft32 : ft 32 = some a32 := rfl
theorem ft35 : ft 35 = some a35 := rfl
theorem ft42 : ft 42 = some a42 := rfl
theorem ft43 : ft 43 = some a43 := rfl
theorem ft44 : ft 44 = some a44 := rfl
theorem ft50 : ft 50 = some a50 := rfl
theorem ft54 : ft 54 = some a54 := rfl
theorem ft55 : ft 55 = some a55 := rfl
theorem ft56 : ft 56 = some a56 := rfl
theorem ft58 : ft 58 = some a58 := rfl
theorem ft59 : ft 59 = some a59 := rfl
theorem ft60 : ft 60 = some a60 := rfl
theorem ft61 : ft 61 = some a61 := rfl
theorem ft67 : ft 67 = some a67 := rfl
theorem ft68 : ft 68 = some a68 := rfl
theorem ft71 : ft 71 = some a71 := rfl
theorem ft73 : ft 73 = some a73 := rfl
theorem ft75 : ft 75 = some a75 := rfl
theorem ft76 : ft 76 = some a76 := rfl
theorem ft77 : ft 77 = some a77 := rfl
theorem ft78 : ft 78 = some a78 := rfl
theorem ft79 : ft 79 = some a79 := rfl
theorem ft81 : ft 81 = some a81 := rfl
theorem ft82 : ft 82 = some a82 := rfl
theorem ft83 : ft 83 = some a83 := rfl
theorem ft86 : ft 86 = some a86 := rfl
theorem ft93 : ft 93 = some a93 := rfl
theorem ft94 : ft 94 = some a94 := rfl
theorem ft95 : ft 95 = some a95 := rfl
theorem ft96 : ft 96 = some a96 := rfl
theorem ft97 : ft 97 = some a97 := rfl
theorem ft98 : ft 98 = some a98 := rfl
theorem ft99 : ft 99 = some a99 := rfl
theorem ft100 : ft 100 = some a100 := rfl
theorem ft101 : ft 101 = some a101 := rfl
theorem ft102 : ft 102 = some a102 := rfl
theorem ft103 : ft 103 = some a103 := rfl
theorem ft104 : ft 104 = some a104 := rfl
theorem ft105 : ft 105 = some a105 := rfl
theorem ft106 : ft 106 = some a106 := rfl
theorem ft107 : ft 107 = some a107 := rfl
theorem ft108 : ft 108 = some a108 := rfl
theorem ft110 : ft 110 = some a110 := rfl
theorem ft111 : ft 111 = some a111 := rfl
theorem ft112 : ft 112 = some a112 := rfl
theorem ft115 : ft 115 = some a115 := rfl
theorem ft116 : ft 116 = some a116 := rfl
theorem ft117 : ft 117 = some a117 := rfl
theorem ft118 : ft 118 = some a118 := rfl
theorem ft119 : ft 119 = some a119 := rfl
theorem ft120 : ft 120 = some a120 := rfl
theorem ft122 : ft 122 = some a122 := rfl
theorem ft123 : ft 123 = some a123 := rfl
theorem ft124 : ft 124 = some a124 := rfl
theorem ft125 : ft 125 = some a125 := rfl
theorem ft126 : ft 126 = some a126 := rfl
theorem ft127 : ft 127 = some a127 := rfl
theorem ft128 : ft 128 = some a128 := rfl
theorem ft129 : ft 129 = some a129 := rfl
theorem ft130 : ft 130 = some a130 := rfl
theorem ft131 : ft 131 = some a131 := rfl
theorem ft132 : ft 132 = some a132 := rfl
theorem ft133 : ft 133 = some a133 := rfl
theorem ft134 : ft 134 = some a134 := rfl
theorem ft135 : ft 135 = some a135 := rfl
theorem ft136 : ft 136 = some a136 := rfl
theorem ft137 : ft 137 = some a137 := rfl
theorem ft138 : ft 138 = some a138 := rfl
theorem ft139 : ft 139 = some a139 := rfl
theorem ft140 : ft 140 = some a140 := rfl
theorem ft141 : ft 141 = some a141 := rfl
theorem ft161 : ft 161 = some a161 := rfl
theorem ft162 : ft 162 = some a162 := rfl
theorem ft163 : ft 163 = some a163 := rfl
theorem ft164 : ft 164 = some a164 := rfl
theorem ft165 : ft 165 = some a165 := rfl
theorem ft166 : ft 166 = some a166 := rfl
theorem ft167 : ft 167 = some a167 := rfl
theorem ft176 : ft 176 = some a176 := rfl
end Go.Ab.T
end

section
namespace Go.Ab.T
abbrev WBv (f : FuncId) : Prop := ∀ (as : List AV) (s : St) (K : AV → St → Prop), WB ft f as s K = WV ft f (as.map (snap s.mem dep)) fun v => (as.all (fun a => !hot dep a) || plain dep v) = true ∧ K v s
abbrev WBr (f : FuncId) : Prop := ∀ (as : List AV) (s : St) (K : AV → St → Prop), WB ft f as s K = WR ft (.f f) as s.mem fun v m => K v (s.setMem m)
abbrev WBo (f : FuncId) : Prop := ∀ (as : List AV) (s : St) (K : AV → St → Prop), WB ft f as s K = WR ft (.f f) (as.map (snap s.mem dep)) .nil fun v m => (as.all (fun a => !hot dep a) || (ownly dep v && m.blks.all Blk.ownly)) = true ∧ K (shift s.mem.blks.length s.mem.toks.length dep v) (s.setMem (joinMem s.mem m dep))
theorem WB14 : WBv 14 := WB_v ft14 rfl
theorem WB15 : WBv 15 := WB_v ft15 rfl
theorem WB16 : WBo 16 := WB_o ft16 rfl
theorem WB17 : WBo 17 := WB_o ft17 rfl
theorem WB18 : WBv 18 := WB_v ft18 rfl
theorem WB21 : WBv 21 := WB_v ft21 rfl
theorem WB22 : WBv 22 := WB_v ft22 rfl
theorem WB23 : WBv 23 := WB_v ft23 rfl
theorem WB24 : WBv 24 := WB_v ft24 rfl
theorem WB26 : WBv 26 := WB_v ft26 rfl
theorem WB27 : WBv 27 := WB_v ft27 rfl
theorem WB29 : WBv 29 := WB_v ft29 rfl
theorem WB31 : WBv 31 := WB_v ft31 rfl
theorem WB32 : WBv 32 := WB_v ft32 rfl
theorem WB35 : WBv 35 := WB_v ft35 rfl
theorem WB42 : WBv 42 := WB_v ft42 rfl
theorem WB43 : WBv 43 := WB_v ft43 rfl
theorem WB44 : WBv 44 := WB_v ft44 rfl
theorem WB50 : WBv 50 := WB_v ft50 rfl
theorem WB54 : WBv 54 := WB_v ft54 rfl
theorem WB55 : WBv 55 := WB_v ft55 rfl
theorem WB56 : WBv 56 := WB_v ft56 rfl
theorem WB58 : WBv 58 := WB_v ft58 rfl
theorem WB59 : WBr 59 := WB_r ft59 rfl
theorem WB60 : WBv 60 := WB_v ft60 rfl
theorem WB61 : WBv 61 := WB_v ft61 rfl
theorem WB67 : WBv 67 := WB_v ft67 rfl
theorem WB68 : WBv 68 := WB_v ft68 rfl
theorem WB71 : WBv 71 := WB_v ft71 rfl
theorem WB73 : WBv 73 := WB_v ft73 rfl
theorem WB75 : WBv 75 := WB_v ft75 rfl
theorem WB76 : WBv 76 := WB_v ft76 rfl
theorem WB77 : WBv 77 := WB_v ft77 rfl
theorem WB78 : WBv 78 := WB_v ft78 rfl
theorem WB79 : WBv 79 := WB_v ft79 rfl
theorem WB81 : WBv 81 := WB_v ft81 rfl
theorem WB82 : WBv 82 := WB_v ft82 rfl
theorem WB83 : WBr 83 := WB_r ft83 rfl
theorem WB86 : WBr 86 := WB_r ft86 rfl
theorem WB93 : WBv 93 := WB_v ft93 rfl
theorem WB94 : WBv 94 := WB_v ft94 rfl
theorem WB95 : WBv 95 := WB_v ft95 rfl
theorem WB96 : WBv 96 := WB_v ft96 rfl
theorem WB97 : WBv 97 := WB_v ft97 rfl
theorem WB98 : WBv 98 := WB_v ft98 rfl
theorem WB99 : WBv 99 := WB_v ft99 rfl
theorem WB100 : WBv 100 := WB_v ft100 rfl
theorem WB101 : WBv 101 := WB_v ft101 rfl
theorem WB102 : WBv 102 := WB_v ft102 rfl
theorem WB103 : WBv 103 := WB_v ft103 rfl
theorem WB104 : WBv 104 := WB_v ft104 rfl
theorem WB105 : WBr 105 := WB_r ft105 rfl
theorem WB106 : WBv 106 := WB_v ft106 rfl
theorem WB107 : WBv 107 := WB_v ft107 rfl
theorem WB108 : WBv 108 := WB_v ft108 rfl
theorem WB110 : WBv 110 := WB_v ft110 rfl
theorem WB111 : WBv 111 := WB_v ft111 rfl
theorem WB112 : WBv 112 := WB_v ft112 rfl
theorem WB115 : WBv 115 := WB_v ft115 rfl
theorem WB116 : WBr 116 := WB_r ft116 rfl
theorem WB117 : WBv 117 := WB_v ft117 rfl
theorem WB118 : WBv 118 := WB_v ft118 rfl
theorem WB119 : WBv 119 := WB_v ft119 rfl
theorem WB120 : WBv 120 := WB_v ft120 rfl
theorem WB122 : WBr 122 := WB_r ft122 rfl
theorem WB123 : WBv 123 := WB_v ft123 rfl
theorem WB124 : WBr 124 := WB_r ft124 rfl
theorem WB125 : WBv 125 := WB_v ft125 rfl
theorem WB126 : WBr 126 := WB_r ft126 rfl
theorem WB127 : WBr 127 := WB_r ft127 rfl
theorem WB128 : WBr 128 := WB_r ft128 rfl
theorem WB129 : WBv 129 := WB_v ft129 rfl
theorem WB130 : WBr 130 := WB_r ft130 rfl
theorem WB131 : WBv 131 := WB_v ft131 rfl
theorem WB132 : WBv 132 := WB_v ft132 rfl
theorem WB133 : WBv 133 := WB_v ft133 rfl
theorem WB134 : WBv 134 := WB_v ft134 rfl
theorem WB135 : WBv 135 := WB_v ft135 rfl
theorem WB136 : WBv 136 := WB_v ft136 rfl
theorem WB137 : WBv 137 := WB_v ft137 rfl
theorem WB138 : WBv 138 := WB_v ft138 rfl
theorem WB139 : WBv 139 := WB_v ft139 rfl
theorem WB140 : WBv 140 := WB_v ft140 rfl
theorem WB141 : WBv 141 := WB_v ft141 rfl
theorem WB161 : WBv 161 := WB_v ft161 rfl
theorem WB162 : WBv 162 := WB_v ft162 rfl
theorem WB163 : WBv 163 := WB_v ft163 rfl
theorem WB164 : WBv 164 := WB_v ft164 rfl
theorem WB165 : WBv 165 := WB_v ft165 rfl
theorem WB166 : WBr 166 := WB_r ft166 rfl
theorem WB176 : WBr 176 := WB_r ft176 rfl
end Go.Ab.T
end
