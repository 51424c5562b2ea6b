/-
  A part of the proofs over this seat.
  (The texts KyT KyW, one behind the other.)
-/
import Derived.Test.YtedkegliicileaaA0
set_option linter.unusedSimpArgs false
set_option linter.unusedVariables false
set_option linter.unusedSectionVars false
section
namespace Go.Ab.T
/-- gosem.cut.init -/
def c2 : ACode := .region [⟨some 0, none, .call 1 []⟩]
def r2 : List Res := []
def a2 : AFn := ⟨0, c2, r2, .v⟩

/-- bijou/bijoulaw06.TurnReal -/
def c3 : ACode := .seq (.region [⟨some 3, none, .box (.t 0) 8⟩,⟨some 5, none, .box (.t 2) 3⟩,⟨some 6, none, .mov (.c (.bool false))⟩])
 (.seq (.seq (.region [⟨some 16, none, .load (.t 3) (some 8)⟩,⟨some 17, none, .mov (.t 1)⟩,⟨some 18, none, .call 13 [(.t 16), (.t 17)]⟩,⟨some 19, none, .not (.t 18)⟩,⟨some 20, none, .mov (.t 19)⟩,⟨some 21, some (20, false), .load (.t 3) (some 8)⟩,⟨some 22, some (20, false), .mov (.t 1)⟩,⟨some 23, some (20, false), .load (.t 5) (some 3)⟩,⟨some 24, some (20, false), .call 14 [(.t 21), (.t 22), (.t 23)]⟩,⟨some 25, some (20, false), .not (.t 24)⟩,⟨some 26, none, .pick (.t 20) (.c (.bool true)) (.t 25)⟩])
 (.cond (.t 26) (.seq (.region [⟨some 27, none, .call 15 []⟩,⟨some 6, none, .mov (.t 27)⟩])
 (.ret))
 (.skip)))
 (.seq (.region [⟨some 29, none, .load (.t 3) (some 8)⟩,⟨some 30, none, .mov (.t 1)⟩,⟨some 31, none, .call 16 [(.t 29), (.t 30)]⟩,⟨some 28, none, .mov (.t 31)⟩,⟨some 32, none, .ext (.t 28) 0⟩,⟨some 33, none, .ext (.t 28) 1⟩,⟨some 7, none, .mov (.t 32)⟩,⟨some 8, none, .mov (.t 33)⟩])
 (.seq (.region [⟨some 35, none, .load (.t 3) (some 8)⟩,⟨some 36, none, .mov (.t 1)⟩,⟨some 37, none, .call 17 [(.t 35), (.t 36)]⟩,⟨some 34, none, .mov (.t 37)⟩,⟨some 38, none, .ext (.t 34) 0⟩,⟨some 39, none, .ext (.t 34) 1⟩,⟨some 40, none, .ext (.t 34) 2⟩,⟨some 9, none, .mov (.t 38)⟩,⟨some 10, none, .mov (.t 39)⟩,⟨some 11, none, .mov (.t 40)⟩])
 (.seq (.seq (.region [⟨some 41, none, .mov (.t 8)⟩,⟨some 42, none, .bin .neq (.t 41) (.c (.int .i64 0))⟩,⟨some 43, none, .mov (.t 42)⟩,⟨some 44, some (43, false), .mov (.t 11)⟩,⟨some 45, some (43, false), .bin .neq (.t 44) (.c (.int .i64 0))⟩,⟨some 46, none, .pick (.t 43) (.c (.bool true)) (.t 45)⟩,⟨some 47, none, .mov (.t 46)⟩,⟨some 48, some (47, false), .mov (.t 7)⟩,⟨some 49, some (47, false), .len (.t 48)⟩,⟨some 50, some (47, false), .mov (.t 1)⟩,⟨some 51, some (47, false), .len (.t 50)⟩,⟨some 52, some (47, false), .bin .neq (.t 49) (.t 51)⟩,⟨some 53, none, .pick (.t 47) (.c (.bool true)) (.t 52)⟩,⟨some 54, none, .mov (.t 53)⟩,⟨some 55, some (54, false), .mov (.t 9)⟩,⟨some 56, some (54, false), .bin .lss (.t 55) (.c (.int .i64 (-1)))⟩,⟨some 57, none, .pick (.t 54) (.c (.bool true)) (.t 56)⟩,⟨some 58, none, .mov (.t 57)⟩,⟨some 59, some (58, false), .mov (.t 9)⟩,⟨some 60, some (58, false), .mov (.t 1)⟩,⟨some 61, some (58, false), .len (.t 60)⟩,⟨some 62, some (58, false), .bin .geq (.t 59) (.t 61)⟩,⟨some 63, none, .pick (.t 58) (.c (.bool true)) (.t 62)⟩,⟨some 64, none, .mov (.t 63)⟩,⟨some 65, some (64, false), .mov (.t 9)⟩,⟨some 66, some (64, false), .bin .eql (.t 65) (.c (.int .i64 (-1)))⟩,⟨some 67, some (64, false), .mov (.t 10)⟩,⟨some 68, some (64, false), .bin .eql (.t 67) (.c (.int .i64 0))⟩,⟨some 69, some (64, false), .eqv true false [.b] (.t 66) (.t 68)⟩,⟨some 70, none, .pick (.t 64) (.c (.bool true)) (.t 69)⟩,⟨some 71, none, .mov (.t 70)⟩,⟨some 72, some (71, false), .mov (.t 10)⟩,⟨some 73, some (71, false), .bin .lss (.t 72) (.c (.int .i64 0))⟩,⟨some 74, none, .pick (.t 71) (.c (.bool true)) (.t 73)⟩])
 (.cond (.t 74) (.seq (.region [⟨some 6, none, .mov (.c (.bool false))⟩])
 (.ret))
 (.skip)))
 (.seq (.region [⟨some 75, none, .load (.t 3) (some 8)⟩,⟨some 76, none, .mov (.t 1)⟩,⟨some 77, none, .load (.t 5) (some 3)⟩,⟨some 78, none, .call 18 [(.t 75), (.t 76), (.t 77)]⟩,⟨some 12, none, .mov (.t 78)⟩])
 (.seq (.seq (.region [⟨some 13, none, .mov (.c (.int .i64 0))⟩])
 (.block 0 (.loop (.seq (.seq (.region [⟨some 79, none, .mov (.t 13)⟩,⟨some 80, none, .mov (.t 1)⟩,⟨some 81, none, .len (.t 80)⟩,⟨some 82, none, .bin .lss (.t 79) (.t 81)⟩])
 (.cond (.t 82) (.skip)
 (.exit 0)))
 (.seq (.block 1 (.seq (.region [⟨some 85, none, .mov (.t 12)⟩,⟨some 86, none, .mov (.t 13)⟩,⟨some 87, none, .idx (.t 85) (.t 86) 5⟩,⟨some 88, none, .load (.t 87) (some 5)⟩,⟨some 14, none, .new (.agg [(.int .i64 0), (.int .i64 0), (.int .i64 0), (.int .i64 0), (.int .i64 0)]) 5⟩,⟨none, none, .store (.t 14) (.t 88) 5⟩])
 (.seq (.seq (.region [⟨some 89, none, .mov (.t 7)⟩,⟨some 90, none, .mov (.t 13)⟩,⟨some 91, none, .idx (.t 89) (.t 90) 10⟩,⟨some 92, none, .addr (.t 91) 0⟩,⟨some 93, none, .load (.t 92) (some 2)⟩,⟨some 94, none, .addr (.t 14) 0⟩,⟨some 95, none, .load (.t 94) none⟩,⟨some 96, none, .call 19 [(.t 93), (.t 95)]⟩,⟨some 97, none, .not (.t 96)⟩,⟨some 98, none, .mov (.t 97)⟩,⟨some 99, some (98, false), .mov (.t 7)⟩,⟨some 100, some (98, false), .mov (.t 13)⟩,⟨some 101, some (98, false), .idx (.t 99) (.t 100) 10⟩,⟨some 102, some (98, false), .addr (.t 101) 2⟩,⟨some 103, some (98, false), .load (.t 102) (some 2)⟩,⟨some 104, some (98, false), .addr (.t 14) 1⟩,⟨some 105, some (98, false), .load (.t 104) none⟩,⟨some 106, some (98, false), .call 19 [(.t 103), (.t 105)]⟩,⟨some 107, some (98, false), .not (.t 106)⟩,⟨some 108, none, .pick (.t 98) (.c (.bool true)) (.t 107)⟩,⟨some 109, none, .mov (.t 108)⟩,⟨some 110, some (109, false), .mov (.t 7)⟩,⟨some 111, some (109, false), .mov (.t 13)⟩,⟨some 112, some (109, false), .idx (.t 110) (.t 111) 10⟩,⟨some 113, some (109, false), .addr (.t 112) 4⟩,⟨some 114, some (109, false), .load (.t 113) (some 2)⟩,⟨some 115, some (109, false), .addr (.t 14) 2⟩,⟨some 116, some (109, false), .load (.t 115) none⟩,⟨some 117, some (109, false), .call 19 [(.t 114), (.t 116)]⟩,⟨some 118, some (109, false), .not (.t 117)⟩,⟨some 119, none, .pick (.t 109) (.c (.bool true)) (.t 118)⟩,⟨some 120, none, .mov (.t 119)⟩,⟨some 121, some (120, false), .mov (.t 7)⟩,⟨some 122, some (120, false), .mov (.t 13)⟩,⟨some 123, some (120, false), .idx (.t 121) (.t 122) 10⟩,⟨some 124, some (120, false), .addr (.t 123) 6⟩,⟨some 125, some (120, false), .load (.t 124) (some 2)⟩,⟨some 126, some (120, false), .addr (.t 14) 3⟩,⟨some 127, some (120, false), .load (.t 126) none⟩,⟨some 128, some (120, false), .call 19 [(.t 125), (.t 127)]⟩,⟨some 129, some (120, false), .not (.t 128)⟩,⟨some 130, none, .pick (.t 120) (.c (.bool true)) (.t 129)⟩,⟨some 131, none, .mov (.t 130)⟩,⟨some 132, some (131, false), .mov (.t 7)⟩,⟨some 133, some (131, false), .mov (.t 13)⟩,⟨some 134, some (131, false), .idx (.t 132) (.t 133) 10⟩,⟨some 135, some (131, false), .addr (.t 134) 8⟩,⟨some 136, some (131, false), .load (.t 135) (some 2)⟩,⟨some 137, some (131, false), .addr (.t 14) 4⟩,⟨some 138, some (131, false), .load (.t 137) none⟩,⟨some 139, some (131, false), .call 19 [(.t 136), (.t 138)]⟩,⟨some 140, some (131, false), .not (.t 139)⟩,⟨some 141, none, .pick (.t 131) (.c (.bool true)) (.t 140)⟩])
 (.cond (.t 141) (.seq (.region [⟨some 6, none, .mov (.c (.bool false))⟩])
 (.ret))
 (.skip)))
 (.seq (.region [⟨some 142, none, .addr (.t 14) 2⟩,⟨some 143, none, .load (.t 142) none⟩,⟨some 144, none, .mov (.t 1)⟩,⟨some 145, none, .mov (.t 13)⟩,⟨some 146, none, .idx (.t 144) (.t 145) 6⟩,⟨some 147, none, .addr (.t 146) 1⟩,⟨some 148, none, .load (.t 147) none⟩,⟨some 149, none, .bin .sub (.t 143) (.t 148)⟩,⟨some 15, none, .mov (.t 149)⟩])
 (.seq (.region [⟨some 150, none, .mov (.t 15)⟩,⟨some 151, none, .bin .lss (.t 150) (.c (.int .i64 0))⟩,⟨some 152, none, .mov (.t 151)⟩,⟨some 153, some (152, false), .mov (.t 15)⟩,⟨some 154, some (152, false), .bin .gtr (.t 153) (.c (.int .i64 0))⟩,⟨some 155, some (152, false), .mov (.t 154)⟩,⟨some 156, some (155, true), .mov (.t 9)⟩,⟨some 157, some (155, true), .bin .eql (.t 156) (.c (.int .i64 (-1)))⟩,⟨some 158, some (155, true), .mov (.t 157)⟩,⟨some 159, some (158, false), .mov (.t 13)⟩,⟨some 160, some (158, false), .mov (.t 9)⟩,⟨some 161, some (158, false), .bin .lss (.t 159) (.t 160)⟩,⟨some 162, some (155, true), .pick (.t 158) (.c (.bool true)) (.t 161)⟩,⟨some 163, some (152, false), .pick (.t 155) (.t 162) (.c (.bool false))⟩,⟨some 164, none, .pick (.t 152) (.c (.bool true)) (.t 163)⟩,⟨some 165, none, .mov (.t 164)⟩,⟨some 166, some (165, false), .mov (.t 13)⟩,⟨some 167, some (165, false), .mov (.t 9)⟩,⟨some 168, some (165, false), .bin .eql (.t 166) (.t 167)⟩,⟨some 169, some (165, false), .mov (.t 168)⟩,⟨some 170, some (169, true), .mov (.t 15)⟩,⟨some 171, some (169, true), .mov (.t 10)⟩,⟨some 172, some (169, true), .bin .gtr (.t 170) (.t 171)⟩,⟨some 173, some (165, false), .pick (.t 169) (.t 172) (.c (.bool false))⟩,⟨some 174, none, .pick (.t 165) (.c (.bool true)) (.t 173)⟩])
 (.cond (.t 174) (.seq (.region [⟨some 6, none, .mov (.c (.bool false))⟩])
 (.ret))
 (.skip)))))))
 (.region [⟨some 83, none, .mov (.t 13)⟩,⟨some 84, none, .bin .add (.t 83) (.c (.int .i64 1))⟩,⟨some 13, none, .mov (.t 84)⟩]))))))
 (.seq (.region [⟨some 175, none, .call 15 []⟩,⟨some 6, none, .mov (.t 175)⟩])
 (.ret))))))))
def r3 : List Res := [.t 6]
def a3 : AFn := ⟨3, c3, r3, .v⟩

/-- bijou/bijoulaw06.TurnOne -/
def c4 : ACode := .seq (.region [⟨some 2, none, .box (.t 0) 8⟩,⟨some 4, none, .mov (.c (.bool false))⟩])
 (.seq (.seq (.region [⟨some 11, none, .load (.t 2) (some 8)⟩,⟨some 12, none, .mov (.t 1)⟩,⟨some 13, none, .call 13 [(.t 11), (.t 12)]⟩,⟨some 14, none, .not (.t 13)⟩])
 (.cond (.t 14) (.seq (.region [⟨some 15, none, .call 15 []⟩,⟨some 4, none, .mov (.t 15)⟩])
 (.ret))
 (.skip)))
 (.seq (.region [⟨some 17, none, .load (.t 2) (some 8)⟩,⟨some 18, none, .mov (.t 1)⟩,⟨some 19, none, .call 16 [(.t 17), (.t 18)]⟩,⟨some 16, none, .mov (.t 19)⟩,⟨some 20, none, .ext (.t 16) 0⟩,⟨some 21, none, .ext (.t 16) 1⟩,⟨some 5, none, .mov (.t 20)⟩,⟨some 6, none, .mov (.t 21)⟩])
 (.seq (.seq (.region [⟨some 22, none, .mov (.t 6)⟩,⟨some 23, none, .bin .neq (.t 22) (.c (.int .i64 0))⟩,⟨some 24, none, .mov (.t 23)⟩,⟨some 25, some (24, false), .mov (.t 5)⟩,⟨some 26, some (24, false), .len (.t 25)⟩,⟨some 27, some (24, false), .mov (.t 1)⟩,⟨some 28, some (24, false), .len (.t 27)⟩,⟨some 29, some (24, false), .bin .neq (.t 26) (.t 28)⟩,⟨some 30, none, .pick (.t 24) (.c (.bool true)) (.t 29)⟩])
 (.cond (.t 30) (.seq (.region [⟨some 4, none, .mov (.c (.bool false))⟩])
 (.ret))
 (.skip)))
 (.seq (.seq (.region [⟨some 7, none, .mov (.c (.int .i64 0))⟩])
 (.block 0 (.loop (.seq (.seq (.region [⟨some 31, none, .mov (.t 7)⟩,⟨some 32, none, .mov (.t 1)⟩,⟨some 33, none, .len (.t 32)⟩,⟨some 34, none, .bin .lss (.t 31) (.t 33)⟩])
 (.cond (.t 34) (.skip)
 (.exit 0)))
 (.seq (.block 1 (.seq (.region [⟨some 37, none, .mov (.t 5)⟩,⟨some 38, none, .mov (.t 7)⟩,⟨some 39, none, .idx (.t 37) (.t 38) 10⟩,⟨some 40, none, .load (.t 39) (some 10)⟩,⟨some 8, none, .new (.agg [(.int .i64 0), (.int .i64 0), (.int .i64 0), (.int .i64 0), (.int .i64 0), (.int .i64 0), (.int .i64 0), (.int .i64 0), (.int .i64 0), (.int .i64 0)]) 10⟩,⟨none, none, .store (.t 8) (.t 40) 10⟩])
 (.seq (.seq (.region [⟨some 41, none, .addr (.t 8) 0⟩,⟨some 42, none, .addr (.t 41) 0⟩,⟨some 43, none, .load (.t 42) none⟩,⟨some 44, none, .addr (.t 8) 0⟩,⟨some 45, none, .addr (.t 44) 1⟩,⟨some 46, none, .load (.t 45) none⟩,⟨some 47, none, .bin .gtr (.t 43) (.t 46)⟩,⟨some 48, none, .mov (.t 47)⟩,⟨some 49, some (48, false), .addr (.t 8) 2⟩,⟨some 50, some (48, false), .addr (.t 49) 0⟩,⟨some 51, some (48, false), .load (.t 50) none⟩,⟨some 52, some (48, false), .addr (.t 8) 2⟩,⟨some 53, some (48, false), .addr (.t 52) 1⟩,⟨some 54, some (48, false), .load (.t 53) none⟩,⟨some 55, some (48, false), .bin .gtr (.t 51) (.t 54)⟩,⟨some 56, none, .pick (.t 48) (.c (.bool true)) (.t 55)⟩,⟨some 57, none, .mov (.t 56)⟩,⟨some 58, some (57, false), .addr (.t 8) 4⟩,⟨some 59, some (57, false), .addr (.t 58) 0⟩,⟨some 60, some (57, false), .load (.t 59) none⟩,⟨some 61, some (57, false), .addr (.t 8) 4⟩,⟨some 62, some (57, false), .addr (.t 61) 1⟩,⟨some 63, some (57, false), .load (.t 62) none⟩,⟨some 64, some (57, false), .bin .gtr (.t 60) (.t 63)⟩,⟨some 65, none, .pick (.t 57) (.c (.bool true)) (.t 64)⟩,⟨some 66, none, .mov (.t 65)⟩,⟨some 67, some (66, false), .addr (.t 8) 6⟩,⟨some 68, some (66, false), .addr (.t 67) 0⟩,⟨some 69, some (66, false), .load (.t 68) none⟩,⟨some 70, some (66, false), .addr (.t 8) 6⟩,⟨some 71, some (66, false), .addr (.t 70) 1⟩,⟨some 72, some (66, false), .load (.t 71) none⟩,⟨some 73, some (66, false), .bin .gtr (.t 69) (.t 72)⟩,⟨some 74, none, .pick (.t 66) (.c (.bool true)) (.t 73)⟩,⟨some 75, none, .mov (.t 74)⟩,⟨some 76, some (75, false), .addr (.t 8) 8⟩,⟨some 77, some (75, false), .addr (.t 76) 0⟩,⟨some 78, some (75, false), .load (.t 77) none⟩,⟨some 79, some (75, false), .addr (.t 8) 8⟩,⟨some 80, some (75, false), .addr (.t 79) 1⟩,⟨some 81, some (75, false), .load (.t 80) none⟩,⟨some 82, some (75, false), .bin .gtr (.t 78) (.t 81)⟩,⟨some 83, none, .pick (.t 75) (.c (.bool true)) (.t 82)⟩])
 (.cond (.t 83) (.seq (.region [⟨some 4, none, .mov (.c (.bool false))⟩])
 (.ret))
 (.skip)))
 (.seq (.seq (.region [⟨some 84, none, .addr (.t 8) 0⟩,⟨some 85, none, .addr (.t 84) 0⟩,⟨some 86, none, .load (.t 85) none⟩,⟨some 87, none, .addr (.t 8) 2⟩,⟨some 88, none, .addr (.t 87) 0⟩,⟨some 89, none, .load (.t 88) none⟩,⟨some 90, none, .bin .gtr (.t 86) (.t 89)⟩,⟨some 91, none, .mov (.t 90)⟩,⟨some 92, some (91, false), .addr (.t 8) 0⟩,⟨some 93, some (91, false), .addr (.t 92) 1⟩,⟨some 94, some (91, false), .load (.t 93) none⟩,⟨some 95, some (91, false), .addr (.t 8) 2⟩,⟨some 96, some (91, false), .addr (.t 95) 1⟩,⟨some 97, some (91, false), .load (.t 96) none⟩,⟨some 98, some (91, false), .bin .gtr (.t 94) (.t 97)⟩,⟨some 99, none, .pick (.t 91) (.c (.bool true)) (.t 98)⟩,⟨some 100, none, .mov (.t 99)⟩,⟨some 101, some (100, false), .addr (.t 8) 2⟩,⟨some 102, some (100, false), .addr (.t 101) 0⟩,⟨some 103, some (100, false), .load (.t 102) none⟩,⟨some 104, some (100, false), .addr (.t 8) 4⟩,⟨some 105, some (100, false), .addr (.t 104) 0⟩,⟨some 106, some (100, false), .load (.t 105) none⟩,⟨some 107, some (100, false), .bin .gtr (.t 103) (.t 106)⟩,⟨some 108, none, .pick (.t 100) (.c (.bool true)) (.t 107)⟩,⟨some 109, none, .mov (.t 108)⟩,⟨some 110, some (109, false), .addr (.t 8) 2⟩,⟨some 111, some (109, false), .addr (.t 110) 1⟩,⟨some 112, some (109, false), .load (.t 111) none⟩,⟨some 113, some (109, false), .addr (.t 8) 4⟩,⟨some 114, some (109, false), .addr (.t 113) 1⟩,⟨some 115, some (109, false), .load (.t 114) none⟩,⟨some 116, some (109, false), .bin .gtr (.t 112) (.t 115)⟩,⟨some 117, none, .pick (.t 109) (.c (.bool true)) (.t 116)⟩,⟨some 118, none, .mov (.t 117)⟩,⟨some 119, some (118, false), .addr (.t 8) 4⟩,⟨some 120, some (118, false), .addr (.t 119) 0⟩,⟨some 121, some (118, false), .load (.t 120) none⟩,⟨some 122, some (118, false), .mov (.t 1)⟩,⟨some 123, some (118, false), .mov (.t 7)⟩,⟨some 124, some (118, false), .idx (.t 122) (.t 123) 6⟩,⟨some 125, some (118, false), .addr (.t 124) 1⟩,⟨some 126, some (118, false), .load (.t 125) none⟩,⟨some 127, some (118, false), .bin .lss (.t 121) (.t 126)⟩,⟨some 128, none, .pick (.t 118) (.c (.bool true)) (.t 127)⟩,⟨some 129, none, .mov (.t 128)⟩,⟨some 130, some (129, false), .addr (.t 8) 6⟩,⟨some 131, some (129, false), .addr (.t 130) 0⟩,⟨some 132, some (129, false), .load (.t 131) none⟩,⟨some 133, some (129, false), .addr (.t 8) 4⟩,⟨some 134, some (129, false), .addr (.t 133) 0⟩,⟨some 135, some (129, false), .load (.t 134) none⟩,⟨some 136, some (129, false), .mov (.t 1)⟩,⟨some 137, some (129, false), .mov (.t 7)⟩,⟨some 138, some (129, false), .idx (.t 136) (.t 137) 6⟩,⟨some 139, some (129, false), .addr (.t 138) 2⟩,⟨some 140, some (129, false), .addr (.t 139) 0⟩,⟨some 141, some (129, false), .load (.t 140) none⟩,⟨some 142, some (129, false), .bin .add (.t 135) (.t 141)⟩,⟨some 143, some (129, false), .bin .lss (.t 132) (.t 142)⟩,⟨some 144, none, .pick (.t 129) (.c (.bool true)) (.t 143)⟩,⟨some 145, none, .mov (.t 144)⟩,⟨some 146, some (145, false), .addr (.t 8) 6⟩,⟨some 147, some (145, false), .addr (.t 146) 1⟩,⟨some 148, some (145, false), .load (.t 147) none⟩,⟨some 149, some (145, false), .addr (.t 8) 4⟩,⟨some 150, some (145, false), .addr (.t 149) 1⟩,⟨some 151, some (145, false), .load (.t 150) none⟩,⟨some 152, some (145, false), .mov (.t 1)⟩,⟨some 153, some (145, false), .mov (.t 7)⟩,⟨some 154, some (145, false), .idx (.t 152) (.t 153) 6⟩,⟨some 155, some (145, false), .addr (.t 154) 2⟩,⟨some 156, some (145, false), .addr (.t 155) 1⟩,⟨some 157, some (145, false), .load (.t 156) none⟩,⟨some 158, some (145, false), .bin .add (.t 151) (.t 157)⟩,⟨some 159, some (145, false), .bin .lss (.t 148) (.t 158)⟩,⟨some 160, none, .pick (.t 145) (.c (.bool true)) (.t 159)⟩,⟨some 161, none, .mov (.t 160)⟩,⟨some 162, some (161, false), .addr (.t 8) 8⟩,⟨some 163, some (161, false), .addr (.t 162) 0⟩,⟨some 164, some (161, false), .load (.t 163) none⟩,⟨some 165, some (161, false), .addr (.t 8) 6⟩,⟨some 166, some (161, false), .addr (.t 165) 0⟩,⟨some 167, some (161, false), .load (.t 166) none⟩,⟨some 168, some (161, false), .addr (.t 2) 6⟩,⟨some 169, some (161, false), .addr (.t 168) 0⟩,⟨some 170, some (161, false), .load (.t 169) none⟩,⟨some 171, some (161, false), .bin .add (.t 167) (.t 170)⟩,⟨some 172, some (161, false), .bin .lss (.t 164) (.t 171)⟩,⟨some 173, none, .pick (.t 161) (.c (.bool true)) (.t 172)⟩,⟨some 174, none, .mov (.t 173)⟩,⟨some 175, some (174, false), .addr (.t 8) 8⟩,⟨some 176, some (174, false), .addr (.t 175) 1⟩,⟨some 177, some (174, false), .load (.t 176) none⟩,⟨some 178, some (174, false), .addr (.t 8) 6⟩,⟨some 179, some (174, false), .addr (.t 178) 1⟩,⟨some 180, some (174, false), .load (.t 179) none⟩,⟨some 181, some (174, false), .addr (.t 2) 6⟩,⟨some 182, some (174, false), .addr (.t 181) 1⟩,⟨some 183, some (174, false), .load (.t 182) none⟩,⟨some 184, some (174, false), .bin .add (.t 180) (.t 183)⟩,⟨some 185, some (174, false), .bin .lss (.t 177) (.t 184)⟩,⟨some 186, none, .pick (.t 174) (.c (.bool true)) (.t 185)⟩])
 (.cond (.t 186) (.seq (.region [⟨some 4, none, .mov (.c (.bool false))⟩])
 (.ret))
 (.skip)))
 (.seq (.region [⟨some 9, none, .mov (.c (.int .i64 0))⟩])
 (.block 2 (.loop (.seq (.seq (.region [⟨some 187, none, .mov (.t 9)⟩,⟨some 188, none, .mov (.t 7)⟩,⟨some 189, none, .bin .lss (.t 187) (.t 188)⟩])
 (.cond (.t 189) (.skip)
 (.exit 2)))
 (.seq (.block 3 (.seq (.region [⟨some 192, none, .mov (.t 5)⟩,⟨some 193, none, .mov (.t 9)⟩,⟨some 194, none, .idx (.t 192) (.t 193) 10⟩,⟨some 195, none, .load (.t 194) (some 10)⟩,⟨some 10, none, .new (.agg [(.int .i64 0), (.int .i64 0), (.int .i64 0), (.int .i64 0), (.int .i64 0), (.int .i64 0), (.int .i64 0), (.int .i64 0), (.int .i64 0), (.int .i64 0)]) 10⟩,⟨none, none, .store (.t 10) (.t 195) 10⟩])
 (.seq (.seq (.region [⟨some 196, none, .mov (.t 1)⟩,⟨some 197, none, .mov (.t 9)⟩,⟨some 198, none, .idx (.t 196) (.t 197) 6⟩,⟨some 199, none, .addr (.t 198) 0⟩,⟨some 200, none, .load (.t 199) none⟩,⟨some 201, none, .mov (.t 1)⟩,⟨some 202, none, .mov (.t 7)⟩,⟨some 203, none, .idx (.t 201) (.t 202) 6⟩,⟨some 204, none, .addr (.t 203) 0⟩,⟨some 205, none, .load (.t 204) none⟩,⟨some 206, none, .bin .eql (.t 200) (.t 205)⟩,⟨some 207, none, .mov (.t 206)⟩,⟨some 208, some (207, true), .addr (.t 8) 0⟩,⟨some 209, some (207, true), .addr (.t 208) 0⟩,⟨some 210, some (207, true), .load (.t 209) none⟩,⟨some 211, some (207, true), .addr (.t 10) 8⟩,⟨some 212, some (207, true), .addr (.t 211) 0⟩,⟨some 213, some (207, true), .load (.t 212) none⟩,⟨some 214, some (207, true), .bin .lss (.t 210) (.t 213)⟩,⟨some 215, some (207, true), .mov (.t 214)⟩,⟨some 216, some (215, false), .addr (.t 8) 0⟩,⟨some 217, some (215, false), .addr (.t 216) 1⟩,⟨some 218, some (215, false), .load (.t 217) none⟩,⟨some 219, some (215, false), .addr (.t 10) 8⟩,⟨some 220, some (215, false), .addr (.t 219) 1⟩,⟨some 221, some (215, false), .load (.t 220) none⟩,⟨some 222, some (215, false), .bin .lss (.t 218) (.t 221)⟩,⟨some 223, some (207, true), .pick (.t 215) (.c (.bool true)) (.t 222)⟩,⟨some 224, none, .pick (.t 207) (.t 223) (.c (.bool false))⟩])
 (.cond (.t 224) (.seq (.region [⟨some 4, none, .mov (.c (.bool false))⟩])
 (.ret))
 (.skip)))
 (.seq (.region [⟨some 225, none, .mov (.t 1)⟩,⟨some 226, none, .mov (.t 9)⟩,⟨some 227, none, .idx (.t 225) (.t 226) 6⟩,⟨some 228, none, .addr (.t 227) 5⟩,⟨some 229, none, .load (.t 228) none⟩,⟨some 230, none, .mov (.t 1)⟩,⟨some 231, none, .mov (.t 7)⟩,⟨some 232, none, .idx (.t 230) (.t 231) 6⟩,⟨some 233, none, .addr (.t 232) 5⟩,⟨some 234, none, .load (.t 233) none⟩,⟨some 235, none, .bin .eql (.t 229) (.t 234)⟩,⟨some 236, none, .mov (.t 235)⟩,⟨some 237, some (236, true), .addr (.t 8) 8⟩,⟨some 238, some (236, true), .addr (.t 237) 0⟩,⟨some 239, some (236, true), .load (.t 238) none⟩,⟨some 240, some (236, true), .addr (.t 10) 8⟩,⟨some 241, some (236, true), .addr (.t 240) 0⟩,⟨some 242, some (236, true), .load (.t 241) none⟩,⟨some 243, some (236, true), .addr (.t 2) 1⟩,⟨some 244, some (236, true), .load (.t 243) none⟩,⟨some 245, some (236, true), .bin .add (.t 242) (.t 244)⟩,⟨some 246, some (236, true), .addr (.t 2) 6⟩,⟨some 247, some (236, true), .addr (.t 246) 0⟩,⟨some 248, some (236, true), .load (.t 247) none⟩,⟨some 249, some (236, true), .bin .add (.t 245) (.t 248)⟩,⟨some 250, some (236, true), .bin .lss (.t 239) (.t 249)⟩,⟨some 251, some (236, true), .mov (.t 250)⟩,⟨some 252, some (251, false), .addr (.t 8) 8⟩,⟨some 253, some (251, false), .addr (.t 252) 1⟩,⟨some 254, some (251, false), .load (.t 253) none⟩,⟨some 255, some (251, false), .addr (.t 10) 8⟩,⟨some 256, some (251, false), .addr (.t 255) 1⟩,⟨some 257, some (251, false), .load (.t 256) none⟩,⟨some 258, some (251, false), .addr (.t 2) 1⟩,⟨some 259, some (251, false), .load (.t 258) none⟩,⟨some 260, some (251, false), .bin .add (.t 257) (.t 259)⟩,⟨some 261, some (251, false), .addr (.t 2) 6⟩,⟨some 262, some (251, false), .addr (.t 261) 1⟩,⟨some 263, some (251, false), .load (.t 262) none⟩,⟨some 264, some (251, false), .bin .add (.t 260) (.t 263)⟩,⟨some 265, some (251, false), .bin .lss (.t 254) (.t 264)⟩,⟨some 266, some (236, true), .pick (.t 251) (.c (.bool true)) (.t 265)⟩,⟨some 267, none, .pick (.t 236) (.t 266) (.c (.bool false))⟩])
 (.cond (.t 267) (.seq (.region [⟨some 4, none, .mov (.c (.bool false))⟩])
 (.ret))
 (.skip))))))
 (.region [⟨some 190, none, .mov (.t 9)⟩,⟨some 191, none, .bin .add (.t 190) (.c (.int .i64 1))⟩,⟨some 9, none, .mov (.t 191)⟩]))))))))))
 (.region [⟨some 35, none, .mov (.t 7)⟩,⟨some 36, none, .bin .add (.t 35) (.c (.int .i64 1))⟩,⟨some 7, none, .mov (.t 36)⟩]))))))
 (.seq (.region [⟨some 268, none, .call 15 []⟩,⟨some 4, none, .mov (.t 268)⟩])
 (.ret))))))
def r4 : List Res := [.t 4]
def a4 : AFn := ⟨2, c4, r4, .v⟩

/-- bijou/bijoulaw06.TurnEasier -/
def c5 : ACode := .seq (.region [⟨some 3, none, .box (.t 0) 8⟩,⟨some 5, none, .box (.t 2) 4⟩,⟨some 6, none, .mov (.c (.bool false))⟩])
 (.seq (.seq (.region [⟨some 21, none, .load (.t 3) (some 8)⟩,⟨some 22, none, .mov (.t 1)⟩,⟨some 23, none, .call 13 [(.t 21), (.t 22)]⟩,⟨some 24, none, .not (.t 23)⟩,⟨some 25, none, .mov (.t 24)⟩,⟨some 26, some (25, false), .addr (.t 5) 0⟩,⟨some 27, some (25, false), .load (.t 26) none⟩,⟨some 28, some (25, false), .addr (.t 5) 1⟩,⟨some 29, some (25, false), .load (.t 28) none⟩,⟨some 30, some (25, false), .addr (.t 5) 2⟩,⟨some 31, some (25, false), .load (.t 30) none⟩,⟨some 32, some (25, false), .addr (.t 5) 3⟩,⟨some 33, some (25, false), .load (.t 32) none⟩,⟨some 34, some (25, false), .mnl false (.t 27) [(.t 29), (.t 31), (.t 33)]⟩,⟨some 35, some (25, false), .bin .lss (.t 34) (.c (.int .i64 0))⟩,⟨some 36, none, .pick (.t 25) (.c (.bool true)) (.t 35)⟩,⟨some 37, none, .mov (.t 36)⟩,⟨some 38, some (37, false), .addr (.t 5) 0⟩,⟨some 39, some (37, false), .load (.t 38) none⟩,⟨some 40, some (37, false), .addr (.t 5) 1⟩,⟨some 41, some (37, false), .load (.t 40) none⟩,⟨some 42, some (37, false), .addr (.t 5) 2⟩,⟨some 43, some (37, false), .load (.t 42) none⟩,⟨some 44, some (37, false), .addr (.t 5) 3⟩,⟨some 45, some (37, false), .load (.t 44) none⟩,⟨some 46, some (37, false), .mnl true (.t 39) [(.t 41), (.t 43), (.t 45)]⟩,⟨some 47, some (37, false), .bin .gtr (.t 46) (.c (.int .i64 1000))⟩,⟨some 48, none, .pick (.t 37) (.c (.bool true)) (.t 47)⟩])
 (.cond (.t 48) (.seq (.region [⟨some 49, none, .call 15 []⟩,⟨some 6, none, .mov (.t 49)⟩])
 (.ret))
 (.skip)))
 (.seq (.region [⟨some 50, none, .load (.t 3) (some 8)⟩,⟨some 51, none, .mov (.t 1)⟩,⟨none, none, .mov (.c .undef)⟩,⟨some 52, none, .call 20 [(.t 51)]⟩,⟨some 7, none, .box (.t 50) 8⟩,⟨some 8, none, .mov (.t 52)⟩])
 (.seq (.region [⟨some 53, none, .addr (.t 3) 1⟩,⟨some 54, none, .load (.t 53) none⟩,⟨some 55, none, .addr (.t 5) 2⟩,⟨some 56, none, .load (.t 55) none⟩,⟨some 57, none, .bin .sub (.t 54) (.t 56)⟩,⟨some 58, none, .mnx true (.c (.int .i64 0)) (.t 57)⟩,⟨some 59, none, .addr (.t 7) 1⟩,⟨none, none, .store (.t 59) (.t 58) 1⟩])
 (.seq (.region [⟨some 60, none, .addr (.t 3) 6⟩,⟨some 61, none, .addr (.t 60) 0⟩,⟨some 62, none, .load (.t 61) none⟩,⟨some 63, none, .addr (.t 5) 1⟩,⟨some 64, none, .load (.t 63) none⟩,⟨some 65, none, .bin .sub (.t 62) (.t 64)⟩,⟨some 66, none, .mnx true (.c (.int .i64 1)) (.t 65)⟩,⟨some 67, none, .addr (.t 3) 6⟩,⟨some 68, none, .addr (.t 67) 1⟩,⟨some 69, none, .load (.t 68) none⟩,⟨some 70, none, .addr (.t 5) 1⟩,⟨some 71, none, .load (.t 70) none⟩,⟨some 72, none, .bin .sub (.t 69) (.t 71)⟩,⟨some 73, none, .mnx true (.c (.int .i64 1)) (.t 72)⟩,⟨some 74, none, .build [(.int .i64 0), (.int .i64 0)] [(0, 1, (.t 66)), (1, 1, (.t 73))]⟩,⟨some 75, none, .addr (.t 7) 6⟩,⟨none, none, .store (.t 75) (.t 74) 2⟩])
 (.seq (.region [⟨some 76, none, .addr (.t 3) 4⟩,⟨some 77, none, .addr (.t 76) 0⟩,⟨some 78, none, .load (.t 77) none⟩,⟨some 79, none, .addr (.t 5) 3⟩,⟨some 80, none, .load (.t 79) none⟩,⟨some 81, none, .bin .add (.t 78) (.t 80)⟩,⟨some 82, none, .mnx false (.c (.int .i64 100)) (.t 81)⟩,⟨some 83, none, .addr (.t 3) 4⟩,⟨some 84, none, .addr (.t 83) 1⟩,⟨some 85, none, .load (.t 84) none⟩,⟨some 86, none, .addr (.t 5) 3⟩,⟨some 87, none, .load (.t 86) none⟩,⟨some 88, none, .bin .add (.t 85) (.t 87)⟩,⟨some 89, none, .mnx false (.c (.int .i64 100)) (.t 88)⟩,⟨some 90, none, .build [(.int .i64 0), (.int .i64 0)] [(0, 1, (.t 82)), (1, 1, (.t 89))]⟩,⟨some 91, none, .addr (.t 7) 4⟩,⟨none, none, .store (.t 91) (.t 90) 2⟩])
 (.seq (.seq (.region [⟨some 9, none, .mov (.c (.int .i64 0))⟩])
 (.block 0 (.loop (.seq (.seq (.region [⟨some 92, none, .mov (.t 9)⟩,⟨some 93, none, .mov (.t 8)⟩,⟨some 94, none, .len (.t 93)⟩,⟨some 95, none, .bin .lss (.t 92) (.t 94)⟩])
 (.cond (.t 95) (.skip)
 (.exit 0)))
 (.seq (.block 1 (.region [⟨some 98, none, .mov (.t 8)⟩,⟨some 99, none, .mov (.t 9)⟩,⟨some 100, none, .mov (.t 8)⟩,⟨some 101, none, .mov (.t 9)⟩,⟨some 102, none, .idx (.t 100) (.t 101) 6⟩,⟨some 103, none, .addr (.t 102) 2⟩,⟨some 104, none, .addr (.t 103) 0⟩,⟨some 105, none, .load (.t 104) none⟩,⟨some 106, none, .addr (.t 5) 0⟩,⟨some 107, none, .load (.t 106) none⟩,⟨some 108, none, .bin .sub (.t 105) (.t 107)⟩,⟨some 109, none, .mnx true (.c (.int .i64 1)) (.t 108)⟩,⟨some 110, none, .mov (.t 8)⟩,⟨some 111, none, .mov (.t 9)⟩,⟨some 112, none, .idx (.t 110) (.t 111) 6⟩,⟨some 113, none, .addr (.t 112) 2⟩,⟨some 114, none, .addr (.t 113) 1⟩,⟨some 115, none, .load (.t 114) none⟩,⟨some 116, none, .addr (.t 5) 0⟩,⟨some 117, none, .load (.t 116) none⟩,⟨some 118, none, .bin .sub (.t 115) (.t 117)⟩,⟨some 119, none, .mnx true (.c (.int .i64 1)) (.t 118)⟩,⟨some 120, none, .build [(.int .i64 0), (.int .i64 0)] [(0, 1, (.t 109)), (1, 1, (.t 119))]⟩,⟨some 121, none, .idx (.t 98) (.t 99) 6⟩,⟨some 122, none, .addr (.t 121) 2⟩,⟨none, none, .store (.t 122) (.t 120) 2⟩]))
 (.region [⟨some 96, none, .mov (.t 9)⟩,⟨some 97, none, .bin .add (.t 96) (.c (.int .i64 1))⟩,⟨some 9, none, .mov (.t 97)⟩]))))))
 (.seq (.seq (.frz)
 (.region [⟨some 124, none, .load (.t 3) (some 8)⟩,⟨some 125, none, .mov (.t 1)⟩,⟨some 126, none, .call 16 [(.t 124), (.t 125)]⟩,⟨some 123, none, .mov (.t 126)⟩,⟨some 127, none, .ext (.t 123) 0⟩,⟨some 128, none, .ext (.t 123) 1⟩,⟨some 10, none, .mov (.t 127)⟩,⟨some 11, none, .mov (.t 128)⟩]))
 (.seq (.region [⟨some 130, none, .load (.t 7) (some 8)⟩,⟨some 131, none, .mov (.t 8)⟩,⟨some 132, none, .call 16 [(.t 130), (.t 131)]⟩,⟨some 129, none, .mov (.t 132)⟩,⟨some 133, none, .ext (.t 129) 0⟩,⟨some 134, none, .ext (.t 129) 1⟩,⟨some 12, none, .mov (.t 133)⟩,⟨some 13, none, .mov (.t 134)⟩])
 (.seq (.region [⟨some 136, none, .load (.t 3) (some 8)⟩,⟨some 137, none, .mov (.t 1)⟩,⟨some 138, none, .call 17 [(.t 136), (.t 137)]⟩,⟨some 135, none, .mov (.t 138)⟩,⟨some 139, none, .ext (.t 135) 0⟩,⟨some 140, none, .ext (.t 135) 1⟩,⟨some 141, none, .ext (.t 135) 2⟩,⟨some 14, none, .mov (.t 139)⟩,⟨some 15, none, .mov (.t 140)⟩,⟨some 16, none, .mov (.t 141)⟩])
 (.seq (.region [⟨some 143, none, .load (.t 7) (some 8)⟩,⟨some 144, none, .mov (.t 8)⟩,⟨some 145, none, .call 17 [(.t 143), (.t 144)]⟩,⟨some 142, none, .mov (.t 145)⟩,⟨some 146, none, .ext (.t 142) 0⟩,⟨some 147, none, .ext (.t 142) 1⟩,⟨some 148, none, .ext (.t 142) 2⟩,⟨some 17, none, .mov (.t 146)⟩,⟨some 18, none, .mov (.t 147)⟩,⟨some 19, none, .mov (.t 148)⟩])
 (.seq (.seq (.region [⟨some 149, none, .mov (.t 11)⟩,⟨some 150, none, .bin .neq (.t 149) (.c (.int .i64 0))⟩,⟨some 151, none, .mov (.t 150)⟩,⟨some 152, some (151, false), .mov (.t 13)⟩,⟨some 153, some (151, false), .bin .neq (.t 152) (.c (.int .i64 0))⟩,⟨some 154, none, .pick (.t 151) (.c (.bool true)) (.t 153)⟩,⟨some 155, none, .mov (.t 154)⟩,⟨some 156, some (155, false), .mov (.t 16)⟩,⟨some 157, some (155, false), .bin .neq (.t 156) (.c (.int .i64 0))⟩,⟨some 158, none, .pick (.t 155) (.c (.bool true)) (.t 157)⟩,⟨some 159, none, .mov (.t 158)⟩,⟨some 160, some (159, false), .mov (.t 19)⟩,⟨some 161, some (159, false), .bin .neq (.t 160) (.c (.int .i64 0))⟩,⟨some 162, none, .pick (.t 159) (.c (.bool true)) (.t 161)⟩,⟨some 163, none, .mov (.t 162)⟩,⟨some 164, some (163, false), .mov (.t 10)⟩,⟨some 165, some (163, false), .len (.t 164)⟩,⟨some 166, some (163, false), .mov (.t 1)⟩,⟨some 167, some (163, false), .len (.t 166)⟩,⟨some 168, some (163, false), .bin .neq (.t 165) (.t 167)⟩,⟨some 169, none, .pick (.t 163) (.c (.bool true)) (.t 168)⟩,⟨some 170, none, .mov (.t 169)⟩,⟨some 171, some (170, false), .mov (.t 12)⟩,⟨some 172, some (170, false), .len (.t 171)⟩,⟨some 173, some (170, false), .mov (.t 1)⟩,⟨some 174, some (170, false), .len (.t 173)⟩,⟨some 175, some (170, false), .bin .neq (.t 172) (.t 174)⟩,⟨some 176, none, .pick (.t 170) (.c (.bool true)) (.t 175)⟩,⟨some 177, none, .mov (.t 176)⟩,⟨some 178, some (177, false), .mov (.t 14)⟩,⟨some 179, some (177, false), .bin .eql (.t 178) (.c (.int .i64 (-1)))⟩,⟨some 180, some (177, false), .mov (.t 179)⟩,⟨some 181, some (180, true), .mov (.t 17)⟩,⟨some 182, some (180, true), .bin .neq (.t 181) (.c (.int .i64 (-1)))⟩,⟨some 183, some (177, false), .pick (.t 180) (.t 182) (.c (.bool false))⟩,⟨some 184, none, .pick (.t 177) (.c (.bool true)) (.t 183)⟩,⟨some 185, none, .mov (.t 184)⟩,⟨some 186, some (185, false), .mov (.t 14)⟩,⟨some 187, some (185, false), .bin .geq (.t 186) (.c (.int .i64 0))⟩,⟨some 188, some (185, false), .mov (.t 187)⟩,⟨some 189, some (188, true), .mov (.t 17)⟩,⟨some 190, some (188, true), .bin .geq (.t 189) (.c (.int .i64 0))⟩,⟨some 191, some (185, false), .pick (.t 188) (.t 190) (.c (.bool false))⟩,⟨some 192, some (185, false), .mov (.t 191)⟩,⟨some 193, some (192, true), .mov (.t 17)⟩,⟨some 194, some (192, true), .mov (.t 14)⟩,⟨some 195, some (192, true), .bin .lss (.t 193) (.t 194)⟩,⟨some 196, some (185, false), .pick (.t 192) (.t 195) (.c (.bool false))⟩,⟨some 197, none, .pick (.t 185) (.c (.bool true)) (.t 196)⟩])
 (.cond (.t 197) (.seq (.region [⟨some 6, none, .mov (.c (.bool false))⟩])
 (.ret))
 (.skip)))
 (.seq (.seq (.region [⟨some 20, none, .mov (.c (.int .i64 0))⟩])
 (.block 2 (.loop (.seq (.seq (.region [⟨some 198, none, .mov (.t 20)⟩,⟨some 199, none, .mov (.t 1)⟩,⟨some 200, none, .len (.t 199)⟩,⟨some 201, none, .bin .lss (.t 198) (.t 200)⟩])
 (.cond (.t 201) (.skip)
 (.exit 2)))
 (.seq (.block 3 (.seq (.region [⟨some 204, none, .mov (.t 12)⟩,⟨some 205, none, .mov (.t 20)⟩,⟨some 206, none, .idx (.t 204) (.t 205) 10⟩,⟨some 207, none, .addr (.t 206) 8⟩,⟨some 208, none, .addr (.t 207) 1⟩,⟨some 209, none, .load (.t 208) none⟩,⟨some 210, none, .mov (.t 10)⟩,⟨some 211, none, .mov (.t 20)⟩,⟨some 212, none, .idx (.t 210) (.t 211) 10⟩,⟨some 213, none, .addr (.t 212) 8⟩,⟨some 214, none, .addr (.t 213) 1⟩,⟨some 215, none, .load (.t 214) none⟩,⟨some 216, none, .bin .gtr (.t 209) (.t 215)⟩,⟨some 217, none, .mov (.t 216)⟩,⟨some 218, some (217, false), .mov (.t 12)⟩,⟨some 219, some (217, false), .mov (.t 20)⟩,⟨some 220, some (217, false), .idx (.t 218) (.t 219) 10⟩,⟨some 221, some (217, false), .addr (.t 220) 8⟩,⟨some 222, some (217, false), .addr (.t 221) 0⟩,⟨some 223, some (217, false), .load (.t 222) none⟩,⟨some 224, some (217, false), .mov (.t 10)⟩,⟨some 225, some (217, false), .mov (.t 20)⟩,⟨some 226, some (217, false), .idx (.t 224) (.t 225) 10⟩,⟨some 227, some (217, false), .addr (.t 226) 8⟩,⟨some 228, some (217, false), .addr (.t 227) 0⟩,⟨some 229, some (217, false), .load (.t 228) none⟩,⟨some 230, some (217, false), .bin .gtr (.t 223) (.t 229)⟩,⟨some 231, none, .pick (.t 217) (.c (.bool true)) (.t 230)⟩,⟨some 232, none, .mov (.t 231)⟩,⟨some 233, some (232, false), .mov (.t 12)⟩,⟨some 234, some (232, false), .mov (.t 20)⟩,⟨some 235, some (232, false), .idx (.t 233) (.t 234) 10⟩,⟨some 236, some (232, false), .addr (.t 235) 4⟩,⟨some 237, some (232, false), .addr (.t 236) 1⟩,⟨some 238, some (232, false), .load (.t 237) none⟩,⟨some 239, some (232, false), .mov (.t 10)⟩,⟨some 240, some (232, false), .mov (.t 20)⟩,⟨some 241, some (232, false), .idx (.t 239) (.t 240) 10⟩,⟨some 242, some (232, false), .addr (.t 241) 4⟩,⟨some 243, some (232, false), .addr (.t 242) 1⟩,⟨some 244, some (232, false), .load (.t 243) none⟩,⟨some 245, some (232, false), .bin .gtr (.t 238) (.t 244)⟩,⟨some 246, none, .pick (.t 232) (.c (.bool true)) (.t 245)⟩,⟨some 247, none, .mov (.t 246)⟩,⟨some 248, some (247, false), .mov (.t 12)⟩,⟨some 249, some (247, false), .mov (.t 20)⟩,⟨some 250, some (247, false), .idx (.t 248) (.t 249) 10⟩,⟨some 251, some (247, false), .addr (.t 250) 0⟩,⟨some 252, some (247, false), .addr (.t 251) 1⟩,⟨some 253, some (247, false), .load (.t 252) none⟩,⟨some 254, some (247, false), .mov (.t 10)⟩,⟨some 255, some (247, false), .mov (.t 20)⟩,⟨some 256, some (247, false), .idx (.t 254) (.t 255) 10⟩,⟨some 257, some (247, false), .addr (.t 256) 0⟩,⟨some 258, some (247, false), .addr (.t 257) 1⟩,⟨some 259, some (247, false), .load (.t 258) none⟩,⟨some 260, some (247, false), .bin .gtr (.t 253) (.t 259)⟩,⟨some 261, none, .pick (.t 247) (.c (.bool true)) (.t 260)⟩,⟨some 262, none, .mov (.t 261)⟩,⟨some 263, some (262, false), .mov (.t 12)⟩,⟨some 264, some (262, false), .mov (.t 20)⟩,⟨some 265, some (262, false), .idx (.t 263) (.t 264) 10⟩,⟨some 266, some (262, false), .addr (.t 265) 2⟩,⟨some 267, some (262, false), .addr (.t 266) 1⟩,⟨some 268, some (262, false), .load (.t 267) none⟩,⟨some 269, some (262, false), .mov (.t 10)⟩,⟨some 270, some (262, false), .mov (.t 20)⟩,⟨some 271, some (262, false), .idx (.t 269) (.t 270) 10⟩,⟨some 272, some (262, false), .addr (.t 271) 2⟩,⟨some 273, some (262, false), .addr (.t 272) 1⟩,⟨some 274, some (262, false), .load (.t 273) none⟩,⟨some 275, some (262, false), .bin .gtr (.t 268) (.t 274)⟩,⟨some 276, none, .pick (.t 262) (.c (.bool true)) (.t 275)⟩,⟨some 277, none, .mov (.t 276)⟩,⟨some 278, some (277, false), .mov (.t 12)⟩,⟨some 279, some (277, false), .mov (.t 20)⟩,⟨some 280, some (277, false), .idx (.t 278) (.t 279) 10⟩,⟨some 281, some (277, false), .addr (.t 280) 6⟩,⟨some 282, some (277, false), .addr (.t 281) 1⟩,⟨some 283, some (277, false), .load (.t 282) none⟩,⟨some 284, some (277, false), .mov (.t 10)⟩,⟨some 285, some (277, false), .mov (.t 20)⟩,⟨some 286, some (277, false), .idx (.t 284) (.t 285) 10⟩,⟨some 287, some (277, false), .addr (.t 286) 6⟩,⟨some 288, some (277, false), .addr (.t 287) 1⟩,⟨some 289, some (277, false), .load (.t 288) none⟩,⟨some 290, some (277, false), .bin .gtr (.t 283) (.t 289)⟩,⟨some 291, none, .pick (.t 277) (.c (.bool true)) (.t 290)⟩])
 (.cond (.t 291) (.seq (.region [⟨some 6, none, .mov (.c (.bool false))⟩])
 (.ret))
 (.skip))))
 (.region [⟨some 202, none, .mov (.t 20)⟩,⟨some 203, none, .bin .add (.t 202) (.c (.int .i64 1))⟩,⟨some 20, none, .mov (.t 203)⟩]))))))
 (.seq (.region [⟨some 292, none, .call 15 []⟩,⟨some 6, none, .mov (.t 292)⟩])
 (.ret))))))))))))))
def r5 : List Res := [.t 6]
def a5 : AFn := ⟨3, c5, r5, .v⟩

/-- bijou/bijoulaw06.TurnFoyer -/
def c6 : ACode := .seq (.region [⟨some 3, none, .box (.t 0) 8⟩,⟨some 5, none, .box (.t 2) 4⟩,⟨some 6, none, .mov (.c (.bool false))⟩])
 (.seq (.seq (.region [⟨some 14, none, .load (.t 3) (some 8)⟩,⟨some 15, none, .mov (.t 1)⟩,⟨some 16, none, .call 13 [(.t 14), (.t 15)]⟩,⟨some 17, none, .not (.t 16)⟩,⟨some 18, none, .mov (.t 17)⟩,⟨some 19, some (18, false), .load (.t 3) (some 8)⟩,⟨some 20, some (18, false), .mov (.t 1)⟩,⟨some 21, some (18, false), .addr (.t 5) 0⟩,⟨some 22, some (18, false), .load (.t 21) (some 3)⟩,⟨some 23, some (18, false), .call 14 [(.t 19), (.t 20), (.t 22)]⟩,⟨some 24, some (18, false), .not (.t 23)⟩,⟨some 25, none, .pick (.t 18) (.c (.bool true)) (.t 24)⟩,⟨some 26, none, .mov (.t 25)⟩,⟨some 27, some (26, false), .addr (.t 5) 3⟩,⟨some 28, some (26, false), .load (.t 27) none⟩,⟨some 29, some (26, false), .bin .lss (.t 28) (.c (.int .i64 0))⟩,⟨some 30, none, .pick (.t 26) (.c (.bool true)) (.t 29)⟩,⟨some 31, none, .mov (.t 30)⟩,⟨some 32, some (31, false), .addr (.t 5) 3⟩,⟨some 33, some (31, false), .load (.t 32) none⟩,⟨some 34, some (31, false), .bin .gtr (.t 33) (.c (.int .i64 9999))⟩,⟨some 35, none, .pick (.t 31) (.c (.bool true)) (.t 34)⟩])
 (.cond (.t 35) (.seq (.region [⟨some 36, none, .call 15 []⟩,⟨some 6, none, .mov (.t 36)⟩])
 (.ret))
 (.skip)))
 (.seq (.region [⟨some 38, none, .load (.t 3) (some 8)⟩,⟨some 39, none, .mov (.t 1)⟩,⟨some 40, none, .addr (.t 5) 3⟩,⟨some 41, none, .load (.t 40) none⟩,⟨some 42, none, .call 21 [(.t 38), (.t 39), (.t 41)]⟩,⟨some 37, none, .mov (.t 42)⟩,⟨some 43, none, .ext (.t 37) 0⟩,⟨some 44, none, .ext (.t 37) 1⟩,⟨some 7, none, .new (.agg [(.int .i64 0), (.int .i64 0)]) 2⟩,⟨none, none, .store (.t 7) (.t 43) 2⟩,⟨some 8, none, .mov (.t 44)⟩])
 (.seq (.region [⟨some 46, none, .load (.t 3) (some 8)⟩,⟨some 47, none, .mov (.t 1)⟩,⟨some 48, none, .call 22 [(.t 46), (.t 47)]⟩,⟨some 45, none, .mov (.t 48)⟩,⟨some 49, none, .ext (.t 45) 0⟩,⟨some 50, none, .ext (.t 45) 1⟩,⟨some 9, none, .mov (.t 49)⟩,⟨some 10, none, .mov (.t 50)⟩])
 (.seq (.seq (.region [⟨some 51, none, .mov (.t 8)⟩,⟨some 52, none, .bin .neq (.t 51) (.c (.int .i64 0))⟩,⟨some 53, none, .mov (.t 52)⟩,⟨some 54, some (53, false), .mov (.t 10)⟩,⟨some 55, some (53, false), .bin .neq (.t 54) (.c (.int .i64 0))⟩,⟨some 56, none, .pick (.t 53) (.c (.bool true)) (.t 55)⟩,⟨some 57, none, .mov (.t 56)⟩,⟨some 58, some (57, false), .mov (.t 9)⟩,⟨some 59, some (57, false), .bin .lss (.t 58) (.c (.int .i64 (-1)))⟩,⟨some 60, none, .pick (.t 57) (.c (.bool true)) (.t 59)⟩,⟨some 61, none, .mov (.t 60)⟩,⟨some 62, some (61, false), .mov (.t 9)⟩,⟨some 63, some (61, false), .bin .gtr (.t 62) (.c (.int .i64 9999))⟩,⟨some 64, none, .pick (.t 61) (.c (.bool true)) (.t 63)⟩])
 (.cond (.t 64) (.seq (.region [⟨some 6, none, .mov (.c (.bool false))⟩])
 (.ret))
 (.skip)))
 (.seq (.region [⟨some 65, none, .load (.t 3) (some 8)⟩,⟨some 66, none, .mov (.t 1)⟩,⟨some 67, none, .addr (.t 5) 0⟩,⟨some 68, none, .load (.t 67) (some 3)⟩,⟨some 69, none, .addr (.t 5) 3⟩,⟨some 70, none, .load (.t 69) none⟩,⟨some 71, none, .call 23 [(.t 65), (.t 66), (.t 68), (.t 70)]⟩,⟨some 11, none, .mov (.t 71)⟩])
 (.seq (.seq (.region [⟨some 72, none, .load (.t 7) (some 2)⟩,⟨some 73, none, .mov (.t 11)⟩,⟨some 74, none, .call 19 [(.t 72), (.t 73)]⟩,⟨some 75, none, .not (.t 74)⟩,⟨some 76, none, .mov (.t 75)⟩,⟨some 77, some (76, false), .mov (.t 9)⟩,⟨some 78, some (76, false), .bin .eql (.t 77) (.c (.int .i64 (-1)))⟩,⟨some 79, some (76, false), .mov (.t 78)⟩,⟨some 80, some (79, false), .addr (.t 5) 3⟩,⟨some 81, some (79, false), .load (.t 80) none⟩,⟨some 82, some (79, false), .mov (.t 9)⟩,⟨some 83, some (79, false), .bin .lss (.t 81) (.t 82)⟩,⟨some 84, some (76, false), .pick (.t 79) (.c (.bool true)) (.t 83)⟩,⟨some 85, some (76, false), .mov (.t 84)⟩,⟨some 86, some (85, true), .mov (.t 11)⟩,⟨some 87, some (85, true), .addr (.t 3) 3⟩,⟨some 88, some (85, true), .load (.t 87) none⟩,⟨some 89, some (85, true), .bin .gtr (.t 86) (.t 88)⟩,⟨some 90, some (76, false), .pick (.t 85) (.t 89) (.c (.bool false))⟩,⟨some 91, none, .pick (.t 76) (.c (.bool true)) (.t 90)⟩])
 (.cond (.t 91) (.seq (.region [⟨some 6, none, .mov (.c (.bool false))⟩])
 (.ret))
 (.skip)))
 (.seq (.seq (.region [⟨some 92, none, .mov (.t 9)⟩,⟨some 93, none, .bin .geq (.t 92) (.c (.int .i64 0))⟩])
 (.cond (.t 93) (.seq (.region [⟨some 95, none, .load (.t 3) (some 8)⟩,⟨some 96, none, .mov (.t 1)⟩,⟨some 97, none, .mov (.t 9)⟩,⟨some 98, none, .call 21 [(.t 95), (.t 96), (.t 97)]⟩,⟨some 94, none, .mov (.t 98)⟩,⟨some 99, none, .ext (.t 94) 0⟩,⟨some 100, none, .ext (.t 94) 1⟩,⟨some 12, none, .new (.agg [(.int .i64 0), (.int .i64 0)]) 2⟩,⟨none, none, .store (.t 12) (.t 99) 2⟩,⟨some 13, none, .mov (.t 100)⟩])
 (.seq (.region [⟨some 101, none, .mov (.t 13)⟩,⟨some 102, none, .bin .eql (.t 101) (.c (.int .i64 0))⟩,⟨some 103, none, .mov (.t 102)⟩,⟨some 104, some (103, true), .addr (.t 12) 1⟩,⟨some 105, some (103, true), .load (.t 104) none⟩,⟨some 106, some (103, true), .addr (.t 3) 3⟩,⟨some 107, some (103, true), .load (.t 106) none⟩,⟨some 108, some (103, true), .bin .gtr (.t 105) (.t 107)⟩,⟨some 109, none, .pick (.t 103) (.t 108) (.c (.bool false))⟩,⟨some 110, none, .mov (.t 109)⟩,⟨some 111, some (110, true), .call 15 []⟩,⟨some 112, none, .pick (.t 110) (.t 111) (.c (.bool false))⟩,⟨some 6, none, .mov (.t 112)⟩])
 (.ret)))
 (.skip)))
 (.seq (.region [⟨some 113, none, .call 15 []⟩,⟨some 6, none, .mov (.t 113)⟩])
 (.ret)))))))))
def r6 : List Res := [.t 6]
def a6 : AFn := ⟨3, c6, r6, .v⟩

/-- bijou/bijoulaw06.TurnFewest -/
def c7 : ACode := .seq (.region [⟨some 3, none, .box (.t 0) 8⟩,⟨some 6, none, .mov (.c (.bool false))⟩])
 (.seq (.seq (.region [⟨some 23, none, .load (.t 3) (some 8)⟩,⟨some 24, none, .mov (.t 1)⟩,⟨some 25, none, .call 13 [(.t 23), (.t 24)]⟩,⟨some 26, none, .not (.t 25)⟩,⟨some 27, none, .mov (.t 26)⟩,⟨some 28, some (27, false), .mov (.t 1)⟩,⟨some 29, some (27, false), .len (.t 28)⟩,⟨some 30, some (27, false), .bin .gtr (.t 29) (.c (.int .i64 6))⟩,⟨some 31, none, .pick (.t 27) (.c (.bool true)) (.t 30)⟩,⟨some 32, none, .mov (.t 31)⟩,⟨some 33, some (32, false), .mov (.t 2)⟩,⟨some 34, some (32, false), .len (.t 33)⟩,⟨some 35, some (32, false), .mov (.t 1)⟩,⟨some 36, some (32, false), .len (.t 35)⟩,⟨some 37, some (32, false), .bin .neq (.t 34) (.t 36)⟩,⟨some 38, none, .pick (.t 32) (.c (.bool true)) (.t 37)⟩])
 (.cond (.t 38) (.seq (.region [⟨some 39, none, .call 15 []⟩,⟨some 6, none, .mov (.t 39)⟩])
 (.ret))
 (.skip)))
 (.seq (.region [⟨some 41, none, .load (.t 3) (some 8)⟩,⟨some 42, none, .mov (.t 1)⟩,⟨some 43, none, .call 24 [(.t 41), (.t 42)]⟩,⟨some 40, none, .mov (.t 43)⟩,⟨some 44, none, .ext (.t 40) 0⟩,⟨some 45, none, .ext (.t 40) 1⟩,⟨some 7, none, .mov (.t 44)⟩,⟨some 8, none, .mov (.t 45)⟩])
 (.seq (.region [⟨some 47, none, .load (.t 3) (some 8)⟩,⟨some 48, none, .mov (.t 1)⟩,⟨some 49, none, .call 25 [(.t 47), (.t 48)]⟩,⟨some 46, none, .mov (.t 49)⟩,⟨some 50, none, .ext (.t 46) 0⟩,⟨some 51, none, .ext (.t 46) 1⟩,⟨some 9, none, .mov (.t 50)⟩,⟨some 10, none, .mov (.t 51)⟩])
 (.seq (.seq (.region [⟨some 52, none, .mov (.t 8)⟩,⟨some 53, none, .bin .neq (.t 52) (.c (.int .i64 0))⟩,⟨some 54, none, .mov (.t 53)⟩,⟨some 55, some (54, true), .mov (.t 8)⟩,⟨some 56, some (54, true), .bin .neq (.t 55) (.c (.int .i64 3))⟩,⟨some 57, none, .pick (.t 54) (.t 56) (.c (.bool false))⟩,⟨some 58, none, .mov (.t 57)⟩,⟨some 59, some (58, false), .mov (.t 10)⟩,⟨some 60, some (58, false), .bin .neq (.t 59) (.c (.int .i64 0))⟩,⟨some 61, some (58, false), .mov (.t 60)⟩,⟨some 62, some (61, true), .mov (.t 10)⟩,⟨some 63, some (61, true), .bin .neq (.t 62) (.c (.int .i64 3))⟩,⟨some 64, some (58, false), .pick (.t 61) (.t 63) (.c (.bool false))⟩,⟨some 65, none, .pick (.t 58) (.c (.bool true)) (.t 64)⟩,⟨some 66, none, .mov (.t 65)⟩,⟨some 67, some (66, false), .mov (.t 10)⟩,⟨some 68, some (66, false), .bin .eql (.t 67) (.c (.int .i64 0))⟩,⟨some 69, some (66, false), .mov (.t 8)⟩,⟨some 70, some (66, false), .bin .eql (.t 69) (.c (.int .i64 0))⟩,⟨some 71, some (66, false), .mov (.t 70)⟩,⟨some 72, some (71, true), .mov (.t 7)⟩,⟨some 73, some (71, true), .addr (.t 3) 0⟩,⟨some 74, some (71, true), .load (.t 73) none⟩,⟨some 75, some (71, true), .bin .leq (.t 72) (.t 74)⟩,⟨some 76, some (66, false), .pick (.t 71) (.t 75) (.c (.bool false))⟩,⟨some 77, some (66, false), .eqv true false [.b] (.t 68) (.t 76)⟩,⟨some 78, none, .pick (.t 66) (.c (.bool true)) (.t 77)⟩,⟨some 79, none, .mov (.t 78)⟩,⟨some 80, some (79, false), .mov (.t 8)⟩,⟨some 81, some (79, false), .bin .eql (.t 80) (.c (.int .i64 0))⟩,⟨some 82, some (79, false), .mov (.t 81)⟩,⟨some 83, some (82, true), .mov (.t 7)⟩,⟨some 84, some (82, true), .bin .lss (.t 83) (.c (.int .i64 1))⟩,⟨some 85, some (82, true), .mov (.t 84)⟩,⟨some 86, some (85, false), .mov (.t 7)⟩,⟨some 87, some (85, false), .bin .gtr (.t 86) (.c (.int .i64 4))⟩,⟨some 88, some (82, true), .pick (.t 85) (.c (.bool true)) (.t 87)⟩,⟨some 89, some (79, false), .pick (.t 82) (.t 88) (.c (.bool false))⟩,⟨some 90, none, .pick (.t 79) (.c (.bool true)) (.t 89)⟩])
 (.cond (.t 90) (.seq (.region [⟨some 6, none, .mov (.c (.bool false))⟩])
 (.ret))
 (.skip)))
 (.seq (.seq (.region [⟨some 91, none, .mov (.t 10)⟩,⟨some 92, none, .bin .eql (.t 91) (.c (.int .i64 0))⟩])
 (.cond (.t 92) (.seq (.region [⟨some 93, none, .mov (.t 1)⟩,⟨some 94, none, .mov (.t 9)⟩,⟨some 95, none, .call 26 [(.t 93), (.t 94)]⟩,⟨some 11, none, .mov (.t 95)⟩])
 (.seq (.seq (.region [⟨some 96, none, .mov (.t 9)⟩,⟨some 97, none, .len (.t 96)⟩,⟨some 98, none, .mov (.t 1)⟩,⟨some 99, none, .len (.t 98)⟩,⟨some 100, none, .bin .neq (.t 97) (.t 99)⟩,⟨some 101, none, .mov (.t 100)⟩,⟨some 102, some (101, false), .load (.t 3) (some 8)⟩,⟨some 103, some (101, false), .mov (.t 11)⟩,⟨some 104, some (101, false), .call 27 [(.t 102), (.t 103)]⟩,⟨some 105, some (101, false), .bin .neq (.t 104) (.c (.int .i64 0))⟩,⟨some 106, none, .pick (.t 101) (.c (.bool true)) (.t 105)⟩])
 (.cond (.t 106) (.seq (.region [⟨some 6, none, .mov (.c (.bool false))⟩])
 (.ret))
 (.skip)))
 (.seq (.region [⟨some 108, none, .load (.t 3) (some 8)⟩,⟨some 109, none, .mov (.t 11)⟩,⟨some 110, none, .call 17 [(.t 108), (.t 109)]⟩,⟨some 107, none, .mov (.t 110)⟩,⟨some 111, none, .ext (.t 107) 0⟩,⟨some 112, none, .ext (.t 107) 1⟩,⟨some 113, none, .ext (.t 107) 2⟩,⟨some 12, none, .mov (.t 111)⟩,⟨some 13, none, .mov (.t 112)⟩,⟨some 14, none, .mov (.t 113)⟩])
 (.seq (.region [⟨some 114, none, .mov (.t 14)⟩,⟨some 115, none, .bin .neq (.t 114) (.c (.int .i64 0))⟩,⟨some 116, none, .mov (.t 115)⟩,⟨some 117, some (116, false), .mov (.t 12)⟩,⟨some 118, some (116, false), .bin .neq (.t 117) (.c (.int .i64 (-1)))⟩,⟨some 119, none, .pick (.t 116) (.c (.bool true)) (.t 118)⟩])
 (.cond (.t 119) (.seq (.region [⟨some 6, none, .mov (.c (.bool false))⟩])
 (.ret))
 (.skip))))))
 (.skip)))
 (.seq (.region [⟨some 120, none, .load (.t 3) (some 8)⟩,⟨some 15, none, .new (.agg [(.int .i64 0), (.int .i64 0), (.int .i64 0), (.int .i64 0), (.int .i64 0), (.int .i64 0), (.int .i64 0), (.int .i64 0)]) 8⟩,⟨none, none, .store (.t 15) (.t 120) 8⟩])
 (.seq (.region [⟨some 121, none, .addr (.t 15) 0⟩,⟨none, none, .store (.t 121) (.c (.int .i64 4)) 1⟩])
 (.seq (.region [⟨some 122, none, .mov (.t 1)⟩,⟨some 123, none, .mov (.t 2)⟩,⟨some 124, none, .call 26 [(.t 122), (.t 123)]⟩,⟨some 16, none, .mov (.t 124)⟩])
 (.seq (.seq (.region [⟨some 125, none, .load (.t 15) (some 8)⟩,⟨some 126, none, .mov (.t 16)⟩,⟨some 127, none, .call 27 [(.t 125), (.t 126)]⟩,⟨some 128, none, .bin .neq (.t 127) (.c (.int .i64 0))⟩])
 (.cond (.t 128) (.seq (.region [⟨some 129, none, .call 15 []⟩,⟨some 6, none, .mov (.t 129)⟩])
 (.ret))
 (.skip)))
 (.seq (.region [⟨some 17, none, .mov (.c (.int .i64 0))⟩])
 (.seq (.seq (.region [⟨some 18, none, .mov (.c (.int .i64 0))⟩])
 (.block 0 (.loop (.seq (.seq (.region [⟨some 130, none, .mov (.t 18)⟩,⟨some 131, none, .bin .lss (.t 130) (.c (.int .i64 4))⟩])
 (.cond (.t 131) (.skip)
 (.exit 0)))
 (.seq (.block 1 (.seq (.region [⟨some 19, none, .mov (.c (.int .i64 0))⟩])
 (.block 2 (.loop (.seq (.seq (.region [⟨some 134, none, .mov (.t 19)⟩,⟨some 135, none, .mov (.t 2)⟩,⟨some 136, none, .len (.t 135)⟩,⟨some 137, none, .bin .lss (.t 134) (.t 136)⟩])
 (.cond (.t 137) (.skip)
 (.exit 2)))
 (.seq (.block 3 (.seq (.region [⟨some 140, none, .mov (.t 2)⟩,⟨some 141, none, .mov (.t 19)⟩,⟨some 142, none, .idx (.t 140) (.t 141) 1⟩,⟨some 143, none, .load (.t 142) none⟩,⟨some 144, none, .mov (.t 18)⟩,⟨some 145, none, .bin .eql (.t 143) (.t 144)⟩])
 (.cond (.t 145) (.seq (.region [⟨some 146, none, .mov (.t 17)⟩,⟨some 147, none, .bin .add (.t 146) (.c (.int .i64 1))⟩,⟨some 17, none, .mov (.t 147)⟩])
 (.exit 2))
 (.skip))))
 (.region [⟨some 138, none, .mov (.t 19)⟩,⟨some 139, none, .bin .add (.t 138) (.c (.int .i64 1))⟩,⟨some 19, none, .mov (.t 139)⟩])))))))
 (.region [⟨some 132, none, .mov (.t 18)⟩,⟨some 133, none, .bin .add (.t 132) (.c (.int .i64 1))⟩,⟨some 18, none, .mov (.t 133)⟩]))))))
 (.seq (.region [⟨some 149, none, .load (.t 15) (some 8)⟩,⟨some 150, none, .mov (.t 16)⟩,⟨some 151, none, .call 17 [(.t 149), (.t 150)]⟩,⟨some 148, none, .mov (.t 151)⟩,⟨some 152, none, .ext (.t 148) 0⟩,⟨some 153, none, .ext (.t 148) 1⟩,⟨some 154, none, .ext (.t 148) 2⟩,⟨some 20, none, .mov (.t 152)⟩,⟨some 21, none, .mov (.t 153)⟩,⟨some 22, none, .mov (.t 154)⟩])
 (.seq (.region [⟨some 155, none, .mov (.t 22)⟩,⟨some 156, none, .bin .eql (.t 155) (.c (.int .i64 0))⟩,⟨some 157, none, .mov (.t 156)⟩,⟨some 158, some (157, true), .mov (.t 20)⟩,⟨some 159, some (157, true), .bin .geq (.t 158) (.c (.int .i64 0))⟩,⟨some 160, some (157, true), .mov (.t 159)⟩,⟨some 161, some (160, false), .mov (.t 8)⟩,⟨some 162, some (160, false), .bin .eql (.t 161) (.c (.int .i64 0))⟩,⟨some 163, some (160, false), .mov (.t 162)⟩,⟨some 164, some (163, true), .mov (.t 17)⟩,⟨some 165, some (163, true), .mnx true (.c (.int .i64 1)) (.t 164)⟩,⟨some 166, some (163, true), .mov (.t 7)⟩,⟨some 167, some (163, true), .bin .geq (.t 165) (.t 166)⟩,⟨some 168, some (160, false), .pick (.t 163) (.t 167) (.c (.bool false))⟩,⟨some 169, some (157, true), .pick (.t 160) (.c (.bool true)) (.t 168)⟩,⟨some 170, none, .pick (.t 157) (.t 169) (.c (.bool false))⟩,⟨some 171, none, .mov (.t 170)⟩,⟨some 172, some (171, true), .call 15 []⟩,⟨some 173, none, .pick (.t 171) (.t 172) (.c (.bool false))⟩,⟨some 6, none, .mov (.t 173)⟩])
 (.ret))))))))))))))
def r7 : List Res := [.t 6]
def a7 : AFn := ⟨3, c7, r7, .v⟩

/-- bijou/bijoulaw06.TurnLast -/
def c8 : ACode := .seq (.region [⟨some 3, none, .box (.t 0) 8⟩,⟨some 5, none, .box (.t 2) 7⟩,⟨some 6, none, .mov (.c (.bool false))⟩])
 (.seq (.regionD [⟨some 20, none, .addr (.t 5) 0⟩,⟨some 21, none, .load (.t 20) (some 6)⟩,⟨some 22, none, .addr (.t 5) 6⟩,⟨some 23, none, .load (.t 22) none⟩,⟨some 7, none, .new (.agg [(.int .i64 0), (.int .i64 0), (.int .i64 0), (.int .i64 0), (.int .i64 0), (.int .i64 0)]) 6⟩,⟨none, none, .store (.t 7) (.t 21) 6⟩,⟨some 8, none, .mov (.t 23)⟩] [(22, 7)])
 (.seq (.seq (.region [⟨some 24, none, .load (.t 3) (some 8)⟩,⟨some 25, none, .mov (.t 1)⟩,⟨some 26, none, .call 13 [(.t 24), (.t 25)]⟩,⟨some 27, none, .not (.t 26)⟩,⟨some 28, none, .mov (.t 27)⟩,⟨some 29, some (28, false), .load (.t 3) (some 8)⟩,⟨some 30, some (28, false), .load (.t 7) (some 6)⟩,⟨some 31, some (28, false), .call 28 [(.t 29), (.t 30)]⟩,⟨some 32, some (28, false), .not (.t 31)⟩,⟨some 33, none, .pick (.t 28) (.c (.bool true)) (.t 32)⟩,⟨some 34, none, .mov (.t 33)⟩,⟨some 35, some (34, false), .mov (.t 1)⟩,⟨some 36, some (34, false), .len (.t 35)⟩,⟨some 37, some (34, false), .bin .geq (.t 36) (.c (.int .i64 12))⟩,⟨some 38, none, .pick (.t 34) (.c (.bool true)) (.t 37)⟩])
 (.cond (.t 38) (.seq (.region [⟨some 39, none, .call 15 []⟩,⟨some 6, none, .mov (.t 39)⟩])
 (.ret))
 (.skip)))
 (.seq (.region [⟨some 41, none, .load (.t 3) (some 8)⟩,⟨some 42, none, .mov (.t 1)⟩,⟨some 43, none, .load (.t 7) (some 6)⟩,⟨some 44, none, .call 29 [(.t 41), (.t 42), (.t 43)]⟩,⟨some 40, none, .mov (.t 44)⟩,⟨some 45, none, .ext (.t 40) 0⟩,⟨some 46, none, .ext (.t 40) 1⟩,⟨some 9, none, .mov (.t 45)⟩,⟨some 10, none, .mov (.t 46)⟩])
 (.seq (.seq (.region [⟨some 47, none, .mov (.t 10)⟩,⟨some 48, none, .bin .neq (.t 47) (.c (.int .i64 0))⟩,⟨some 49, none, .mov (.t 48)⟩,⟨some 50, some (49, true), .mov (.t 10)⟩,⟨some 51, some (49, true), .bin .neq (.t 50) (.c (.int .i64 3))⟩,⟨some 52, none, .pick (.t 49) (.t 51) (.c (.bool false))⟩])
 (.cond (.t 52) (.seq (.region [⟨some 6, none, .mov (.c (.bool false))⟩])
 (.ret))
 (.skip)))
 (.seq (.region [⟨some 54, none, .load (.t 3) (some 8)⟩,⟨some 55, none, .mov (.t 1)⟩,⟨some 56, none, .call 16 [(.t 54), (.t 55)]⟩,⟨some 53, none, .mov (.t 56)⟩,⟨some 57, none, .ext (.t 53) 0⟩,⟨some 58, none, .ext (.t 53) 1⟩,⟨some 11, none, .mov (.t 57)⟩,⟨some 12, none, .mov (.t 58)⟩])
 (.seq (.seq (.region [⟨some 59, none, .mov (.t 12)⟩,⟨some 60, none, .bin .neq (.t 59) (.c (.int .i64 0))⟩,⟨some 61, none, .mov (.t 60)⟩,⟨some 62, some (61, false), .mov (.t 11)⟩,⟨some 63, some (61, false), .len (.t 62)⟩,⟨some 64, some (61, false), .mov (.t 1)⟩,⟨some 65, some (61, false), .len (.t 64)⟩,⟨some 66, some (61, false), .bin .neq (.t 63) (.t 65)⟩,⟨some 67, none, .pick (.t 61) (.c (.bool true)) (.t 66)⟩])
 (.cond (.t 67) (.seq (.region [⟨some 6, none, .mov (.c (.bool false))⟩])
 (.ret))
 (.skip)))
 (.seq (.seq (.region [⟨some 68, none, .mov (.t 10)⟩,⟨some 69, none, .bin .eql (.t 68) (.c (.int .i64 0))⟩])
 (.cond (.t 69) (.seq (.region [⟨some 70, none, .mov (.t 9)⟩,⟨some 71, none, .addr (.t 7) 1⟩,⟨none, none, .store (.t 71) (.t 70) 1⟩])
 (.seq (.region [⟨some 72, none, .mov (.t 1)⟩,⟨some 74, none, .load (.t 7) (some 6)⟩,⟨some 75, none, .lit false 47 6 [(.t 74)]⟩,⟨some 73, none, .call 20 [(.t 72)]⟩,⟨some 76, none, .app false (.t 73) (.t 75) 47 6 48⟩,⟨some 13, none, .mov (.t 76)⟩])
 (.seq (.seq (.region [⟨some 77, none, .load (.t 3) (some 8)⟩,⟨some 78, none, .mov (.t 13)⟩,⟨some 79, none, .call 27 [(.t 77), (.t 78)]⟩,⟨some 80, none, .bin .neq (.t 79) (.c (.int .i64 0))⟩])
 (.cond (.t 80) (.seq (.region [⟨some 6, none, .mov (.c (.bool false))⟩])
 (.ret))
 (.skip)))
 (.seq (.region [⟨some 82, none, .load (.t 3) (some 8)⟩,⟨some 83, none, .mov (.t 13)⟩,⟨some 84, none, .call 16 [(.t 82), (.t 83)]⟩,⟨some 81, none, .mov (.t 84)⟩,⟨some 85, none, .ext (.t 81) 0⟩,⟨some 86, none, .ext (.t 81) 1⟩,⟨some 14, none, .mov (.t 85)⟩,⟨some 15, none, .mov (.t 86)⟩])
 (.seq (.seq (.region [⟨some 87, none, .mov (.t 15)⟩,⟨some 88, none, .bin .neq (.t 87) (.c (.int .i64 0))⟩,⟨some 89, none, .mov (.t 88)⟩,⟨some 90, some (89, false), .mov (.t 14)⟩,⟨some 91, some (89, false), .len (.t 90)⟩,⟨some 92, some (89, false), .mov (.t 13)⟩,⟨some 93, some (89, false), .len (.t 92)⟩,⟨some 94, some (89, false), .bin .neq (.t 91) (.t 93)⟩,⟨some 95, none, .pick (.t 89) (.c (.bool true)) (.t 94)⟩,⟨some 96, none, .mov (.t 95)⟩,⟨some 97, some (96, false), .mov (.t 14)⟩,⟨some 98, some (96, false), .mov (.t 1)⟩,⟨some 99, some (96, false), .len (.t 98)⟩,⟨some 100, some (96, false), .idx (.t 97) (.t 99) 10⟩,⟨some 101, some (96, false), .addr (.t 100) 4⟩,⟨some 102, some (96, false), .load (.t 101) (some 2)⟩,⟨some 103, some (96, false), .mov (.t 9)⟩,⟨some 104, some (96, false), .mov (.t 9)⟩,⟨some 105, some (96, false), .build [(.int .i64 0), (.int .i64 0)] [(0, 1, (.t 103)), (1, 1, (.t 104))]⟩,⟨some 106, some (96, false), .eqv true true [.i, .i] (.t 102) (.t 105)⟩,⟨some 107, none, .pick (.t 96) (.c (.bool true)) (.t 106)⟩])
 (.cond (.t 107) (.seq (.region [⟨some 6, none, .mov (.c (.bool false))⟩])
 (.ret))
 (.skip)))
 (.seq (.region [⟨some 16, none, .mov (.c (.int .i64 0))⟩])
 (.block 0 (.loop (.seq (.seq (.region [⟨some 108, none, .mov (.t 16)⟩,⟨some 109, none, .mov (.t 1)⟩,⟨some 110, none, .len (.t 109)⟩,⟨some 111, none, .bin .lss (.t 108) (.t 110)⟩])
 (.cond (.t 111) (.skip)
 (.exit 0)))
 (.seq (.block 1 (.seq (.region [⟨some 114, none, .mov (.t 11)⟩,⟨some 115, none, .mov (.t 16)⟩,⟨some 116, none, .idx (.t 114) (.t 115) 10⟩,⟨some 117, none, .load (.t 116) (some 10)⟩,⟨some 118, none, .mov (.t 14)⟩,⟨some 119, none, .mov (.t 16)⟩,⟨some 120, none, .idx (.t 118) (.t 119) 10⟩,⟨some 121, none, .load (.t 120) (some 10)⟩,⟨some 122, none, .eqv true true [.i, .i, .i, .i, .i, .i, .i, .i, .i, .i] (.t 117) (.t 121)⟩])
 (.cond (.t 122) (.seq (.region [⟨some 6, none, .mov (.c (.bool false))⟩])
 (.ret))
 (.skip))))
 (.region [⟨some 112, none, .mov (.t 16)⟩,⟨some 113, none, .bin .add (.t 112) (.c (.int .i64 1))⟩,⟨some 16, none, .mov (.t 113)⟩])))))))))))
 (.skip)))
 (.seq (.seq (.region [⟨some 123, none, .mov (.t 8)⟩,⟨some 124, none, .bin .lss (.t 123) (.c (.int .i64 0))⟩,⟨some 125, none, .mov (.t 124)⟩,⟨some 126, some (125, false), .mov (.t 8)⟩,⟨some 127, some (125, false), .bin .gtr (.t 126) (.c (.int .i64 2000))⟩,⟨some 128, none, .pick (.t 125) (.c (.bool true)) (.t 127)⟩,⟨some 129, none, .mov (.t 128)⟩,⟨some 130, some (129, false), .mov (.t 10)⟩,⟨some 131, some (129, false), .bin .eql (.t 130) (.c (.int .i64 0))⟩,⟨some 132, some (129, false), .mov (.t 131)⟩,⟨some 133, some (132, true), .mov (.t 8)⟩,⟨some 134, some (132, true), .mov (.t 9)⟩,⟨some 135, some (132, true), .bin .geq (.t 133) (.t 134)⟩,⟨some 136, some (129, false), .pick (.t 132) (.t 135) (.c (.bool false))⟩,⟨some 137, none, .pick (.t 129) (.c (.bool true)) (.t 136)⟩])
 (.cond (.t 137) (.seq (.region [⟨some 138, none, .call 15 []⟩,⟨some 6, none, .mov (.t 138)⟩])
 (.ret))
 (.skip)))
 (.seq (.region [⟨some 139, none, .mov (.t 8)⟩,⟨some 140, none, .addr (.t 7) 1⟩,⟨none, none, .store (.t 140) (.t 139) 1⟩])
 (.seq (.region [⟨some 141, none, .mov (.t 1)⟩,⟨some 143, none, .load (.t 7) (some 6)⟩,⟨some 144, none, .lit false 47 6 [(.t 143)]⟩,⟨some 142, none, .call 20 [(.t 141)]⟩,⟨some 145, none, .app false (.t 142) (.t 144) 47 6 48⟩,⟨some 17, none, .mov (.t 145)⟩])
 (.seq (.seq (.region [⟨some 146, none, .load (.t 3) (some 8)⟩,⟨some 147, none, .mov (.t 17)⟩,⟨some 148, none, .call 27 [(.t 146), (.t 147)]⟩,⟨some 149, none, .bin .neq (.t 148) (.c (.int .i64 0))⟩])
 (.cond (.t 149) (.seq (.region [⟨some 150, none, .call 15 []⟩,⟨some 6, none, .mov (.t 150)⟩])
 (.ret))
 (.skip)))
 (.seq (.region [⟨some 152, none, .load (.t 3) (some 8)⟩,⟨some 153, none, .mov (.t 17)⟩,⟨some 154, none, .call 16 [(.t 152), (.t 153)]⟩,⟨some 151, none, .mov (.t 154)⟩,⟨some 155, none, .ext (.t 151) 0⟩,⟨some 156, none, .ext (.t 151) 1⟩,⟨some 18, none, .mov (.t 155)⟩,⟨some 19, none, .mov (.t 156)⟩])
 (.seq (.region [⟨some 157, none, .mov (.t 19)⟩,⟨some 158, none, .bin .eql (.t 157) (.c (.int .i64 0))⟩,⟨some 159, none, .mov (.t 158)⟩,⟨some 160, some (159, true), .mov (.t 18)⟩,⟨some 161, some (159, true), .len (.t 160)⟩,⟨some 162, some (159, true), .mov (.t 17)⟩,⟨some 163, some (159, true), .len (.t 162)⟩,⟨some 164, some (159, true), .bin .eql (.t 161) (.t 163)⟩,⟨some 165, none, .pick (.t 159) (.t 164) (.c (.bool false))⟩,⟨some 166, none, .mov (.t 165)⟩,⟨some 167, some (166, true), .mov (.t 18)⟩,⟨some 168, some (166, true), .mov (.t 1)⟩,⟨some 169, some (166, true), .len (.t 168)⟩,⟨some 170, some (166, true), .idx (.t 167) (.t 169) 10⟩,⟨some 171, some (166, true), .addr (.t 170) 4⟩,⟨some 172, some (166, true), .addr (.t 171) 1⟩,⟨some 173, some (166, true), .load (.t 172) none⟩,⟨some 174, some (166, true), .mov (.t 8)⟩,⟨some 175, some (166, true), .bin .gtr (.t 173) (.t 174)⟩,⟨some 176, none, .pick (.t 166) (.t 175) (.c (.bool false))⟩,⟨some 177, none, .mov (.t 176)⟩,⟨some 178, some (177, true), .call 15 []⟩,⟨some 179, none, .pick (.t 177) (.t 178) (.c (.bool false))⟩,⟨some 6, none, .mov (.t 179)⟩])
 (.ret))))))))))))))
def r8 : List Res := [.t 6]
def a8 : AFn := ⟨3, c8, r8, .v⟩

/-- bijou/bijoulaw06.TurnTimes -/
def c9 : ACode := .seq (.region [⟨some 2, none, .box (.t 0) 8⟩,⟨some 4, none, .mov (.c (.bool false))⟩])
 (.seq (.seq (.region [⟨some 17, none, .mov (.t 1)⟩,⟨some 18, none, .call 30 [(.t 17)]⟩])
 (.cond (.t 18) (.seq (.region [⟨some 19, none, .call 15 []⟩,⟨some 4, none, .mov (.t 19)⟩])
 (.ret))
 (.skip)))
 (.seq (.region [⟨some 20, none, .mov (.t 1)⟩,⟨some 21, none, .call 20 [(.t 20)]⟩,⟨some 5, none, .mov (.t 21)⟩])
 (.seq (.seq (.region [⟨some 22, none, .load (.t 2) (some 8)⟩,⟨some 23, none, .mov (.t 5)⟩,⟨some 24, none, .call 31 [(.t 22), (.t 23)]⟩,⟨some 25, none, .load (.t 2) (some 8)⟩,⟨some 26, none, .mov (.t 1)⟩,⟨some 27, none, .call 27 [(.t 25), (.t 26)]⟩,⟨some 28, none, .bin .neq (.t 24) (.t 27)⟩])
 (.cond (.t 28) (.seq (.region [⟨some 4, none, .mov (.c (.bool false))⟩])
 (.ret))
 (.skip)))
 (.seq (.region [⟨some 30, none, .load (.t 2) (some 8)⟩,⟨some 31, none, .mov (.t 5)⟩,⟨some 32, none, .call 16 [(.t 30), (.t 31)]⟩,⟨some 29, none, .mov (.t 32)⟩,⟨some 33, none, .ext (.t 29) 0⟩,⟨some 34, none, .ext (.t 29) 1⟩,⟨some 6, none, .mov (.t 33)⟩,⟨some 7, none, .mov (.t 34)⟩])
 (.seq (.region [⟨some 36, none, .load (.t 2) (some 8)⟩,⟨some 37, none, .mov (.t 1)⟩,⟨some 38, none, .call 32 [(.t 36), (.t 37)]⟩,⟨some 35, none, .mov (.t 38)⟩,⟨some 39, none, .ext (.t 35) 0⟩,⟨some 40, none, .ext (.t 35) 1⟩,⟨some 8, none, .mov (.t 39)⟩,⟨some 9, none, .mov (.t 40)⟩])
 (.seq (.region [⟨some 42, none, .load (.t 2) (some 8)⟩,⟨some 43, none, .mov (.t 5)⟩,⟨some 44, none, .call 17 [(.t 42), (.t 43)]⟩,⟨some 41, none, .mov (.t 44)⟩,⟨some 45, none, .ext (.t 41) 0⟩,⟨some 46, none, .ext (.t 41) 1⟩,⟨some 47, none, .ext (.t 41) 2⟩,⟨some 10, none, .mov (.t 45)⟩,⟨some 11, none, .mov (.t 46)⟩,⟨some 12, none, .mov (.t 47)⟩])
 (.seq (.region [⟨some 49, none, .load (.t 2) (some 8)⟩,⟨some 50, none, .mov (.t 1)⟩,⟨some 51, none, .call 33 [(.t 49), (.t 50)]⟩,⟨some 48, none, .mov (.t 51)⟩,⟨some 52, none, .ext (.t 48) 0⟩,⟨some 53, none, .ext (.t 48) 1⟩,⟨some 54, none, .ext (.t 48) 2⟩,⟨some 13, none, .mov (.t 52)⟩,⟨some 14, none, .mov (.t 53)⟩,⟨some 15, none, .mov (.t 54)⟩])
 (.seq (.seq (.region [⟨some 55, none, .mov (.t 6)⟩,⟨some 56, none, .len (.t 55)⟩,⟨some 57, none, .mov (.t 8)⟩,⟨some 58, none, .len (.t 57)⟩,⟨some 59, none, .bin .neq (.t 56) (.t 58)⟩,⟨some 60, none, .mov (.t 59)⟩,⟨some 61, some (60, false), .mov (.t 7)⟩,⟨some 62, some (60, false), .mov (.t 9)⟩,⟨some 63, some (60, false), .bin .neq (.t 61) (.t 62)⟩,⟨some 64, none, .pick (.t 60) (.c (.bool true)) (.t 63)⟩,⟨some 65, none, .mov (.t 64)⟩,⟨some 66, some (65, false), .mov (.t 10)⟩,⟨some 67, some (65, false), .mov (.t 13)⟩,⟨some 68, some (65, false), .bin .neq (.t 66) (.t 67)⟩,⟨some 69, none, .pick (.t 65) (.c (.bool true)) (.t 68)⟩,⟨some 70, none, .mov (.t 69)⟩,⟨some 71, some (70, false), .mov (.t 11)⟩,⟨some 72, some (70, false), .mov (.t 14)⟩,⟨some 73, some (70, false), .bin .neq (.t 71) (.t 72)⟩,⟨some 74, none, .pick (.t 70) (.c (.bool true)) (.t 73)⟩,⟨some 75, none, .mov (.t 74)⟩,⟨some 76, some (75, false), .mov (.t 12)⟩,⟨some 77, some (75, false), .mov (.t 15)⟩,⟨some 78, some (75, false), .bin .neq (.t 76) (.t 77)⟩,⟨some 79, none, .pick (.t 75) (.c (.bool true)) (.t 78)⟩])
 (.cond (.t 79) (.seq (.region [⟨some 4, none, .mov (.c (.bool false))⟩])
 (.ret))
 (.skip)))
 (.seq (.seq (.region [⟨some 16, none, .mov (.c (.int .i64 0))⟩])
 (.block 0 (.loop (.seq (.seq (.region [⟨some 80, none, .mov (.t 16)⟩,⟨some 81, none, .mov (.t 6)⟩,⟨some 82, none, .len (.t 81)⟩,⟨some 83, none, .bin .lss (.t 80) (.t 82)⟩])
 (.cond (.t 83) (.skip)
 (.exit 0)))
 (.seq (.block 1 (.seq (.region [⟨some 86, none, .mov (.t 6)⟩,⟨some 87, none, .mov (.t 16)⟩,⟨some 88, none, .idx (.t 86) (.t 87) 10⟩,⟨some 89, none, .load (.t 88) (some 10)⟩,⟨some 90, none, .mov (.t 8)⟩,⟨some 91, none, .mov (.t 16)⟩,⟨some 92, none, .idx (.t 90) (.t 91) 10⟩,⟨some 93, none, .load (.t 92) (some 10)⟩,⟨some 94, none, .eqv true true [.i, .i, .i, .i, .i, .i, .i, .i, .i, .i] (.t 89) (.t 93)⟩])
 (.cond (.t 94) (.seq (.region [⟨some 4, none, .mov (.c (.bool false))⟩])
 (.ret))
 (.skip))))
 (.region [⟨some 84, none, .mov (.t 16)⟩,⟨some 85, none, .bin .add (.t 84) (.c (.int .i64 1))⟩,⟨some 16, none, .mov (.t 85)⟩]))))))
 (.seq (.region [⟨some 95, none, .mov (.t 5)⟩,⟨some 96, none, .mov (.t 1)⟩,⟨some 97, none, .call 34 [(.t 95), (.t 96)]⟩,⟨some 98, none, .mov (.t 97)⟩,⟨some 99, some (98, true), .call 15 []⟩,⟨some 100, none, .pick (.t 98) (.t 99) (.c (.bool false))⟩,⟨some 4, none, .mov (.t 100)⟩])
 (.ret)))))))))))
def r9 : List Res := [.t 4]
def a9 : AFn := ⟨2, c9, r9, .v⟩

/-- bijou/bijoulaw06.TurnWaits -/
def c10 : ACode := .seq (.region [⟨some 3, none, .box (.t 0) 8⟩,⟨some 6, none, .mov (.c (.bool false))⟩])
 (.seq (.seq (.region [⟨some 15, none, .mov (.t 1)⟩,⟨some 16, none, .call 30 [(.t 15)]⟩])
 (.cond (.t 16) (.seq (.region [⟨some 17, none, .call 15 []⟩,⟨some 6, none, .mov (.t 17)⟩])
 (.ret))
 (.skip)))
 (.seq (.region [⟨some 19, none, .load (.t 3) (some 8)⟩,⟨some 20, none, .mov (.t 1)⟩,⟨some 22, none, .mov (.t 2)⟩,⟨none, none, .mov (.c .undef)⟩,⟨some 21, none, .call 20 [(.t 20)]⟩,⟨some 23, none, .call 21 [(.t 19), (.t 21), (.t 22)]⟩,⟨some 18, none, .mov (.t 23)⟩,⟨some 24, none, .ext (.t 18) 0⟩,⟨some 25, none, .ext (.t 18) 1⟩,⟨some 7, none, .box (.t 24) 2⟩,⟨some 8, none, .mov (.t 25)⟩])
 (.seq (.region [⟨some 27, none, .load (.t 3) (some 8)⟩,⟨some 28, none, .mov (.t 1)⟩,⟨some 29, none, .mov (.t 2)⟩,⟨some 30, none, .call 35 [(.t 27), (.t 28), (.t 29)]⟩,⟨some 26, none, .mov (.t 30)⟩,⟨some 31, none, .ext (.t 26) 0⟩,⟨some 32, none, .ext (.t 26) 1⟩,⟨some 9, none, .new (.agg [(.int .i64 0), (.int .i64 0)]) 2⟩,⟨none, none, .store (.t 9) (.t 31) 2⟩,⟨some 10, none, .mov (.t 32)⟩])
 (.seq (.region [⟨some 34, none, .load (.t 3) (some 8)⟩,⟨some 35, none, .mov (.t 1)⟩,⟨some 36, none, .call 20 [(.t 35)]⟩,⟨some 37, none, .call 22 [(.t 34), (.t 36)]⟩,⟨some 33, none, .mov (.t 37)⟩,⟨some 38, none, .ext (.t 33) 0⟩,⟨some 39, none, .ext (.t 33) 1⟩,⟨some 11, none, .mov (.t 38)⟩,⟨some 12, none, .mov (.t 39)⟩])
 (.seq (.region [⟨some 41, none, .load (.t 3) (some 8)⟩,⟨some 42, none, .mov (.t 1)⟩,⟨some 43, none, .call 36 [(.t 41), (.t 42)]⟩,⟨some 40, none, .mov (.t 43)⟩,⟨some 44, none, .ext (.t 40) 0⟩,⟨some 45, none, .ext (.t 40) 1⟩,⟨some 13, none, .mov (.t 44)⟩,⟨some 14, none, .mov (.t 45)⟩])
 (.seq (.region [⟨some 46, none, .load (.t 7) (some 2)⟩,⟨some 47, none, .load (.t 9) (some 2)⟩,⟨some 48, none, .eqv false true [.i, .i] (.t 46) (.t 47)⟩,⟨some 49, none, .mov (.t 48)⟩,⟨some 50, some (49, true), .mov (.t 8)⟩,⟨some 51, some (49, true), .mov (.t 10)⟩,⟨some 52, some (49, true), .bin .eql (.t 50) (.t 51)⟩,⟨some 53, none, .pick (.t 49) (.t 52) (.c (.bool false))⟩,⟨some 54, none, .mov (.t 53)⟩,⟨some 55, some (54, true), .mov (.t 11)⟩,⟨some 56, some (54, true), .mov (.t 13)⟩,⟨some 57, some (54, true), .bin .eql (.t 55) (.t 56)⟩,⟨some 58, none, .pick (.t 54) (.t 57) (.c (.bool false))⟩,⟨some 59, none, .mov (.t 58)⟩,⟨some 60, some (59, true), .mov (.t 12)⟩,⟨some 61, some (59, true), .mov (.t 14)⟩,⟨some 62, some (59, true), .bin .eql (.t 60) (.t 61)⟩,⟨some 63, none, .pick (.t 59) (.t 62) (.c (.bool false))⟩,⟨some 64, none, .mov (.t 63)⟩,⟨some 65, some (64, true), .call 15 []⟩,⟨some 66, none, .pick (.t 64) (.t 65) (.c (.bool false))⟩,⟨some 6, none, .mov (.t 66)⟩])
 (.ret)))))))
def r10 : List Res := [.t 6]
def a10 : AFn := ⟨3, c10, r10, .v⟩

/-- bijou/bijoulaw06.TurnTeams -/
def c11 : ACode := .seq (.region [⟨some 2, none, .box (.t 0) 8⟩,⟨some 4, none, .mov (.c (.bool false))⟩])
 (.seq (.seq (.region [⟨some 15, none, .mov (.t 1)⟩,⟨some 16, none, .call 30 [(.t 15)]⟩,⟨some 17, none, .mov (.t 16)⟩,⟨some 18, some (17, false), .mov (.t 1)⟩,⟨some 19, some (17, false), .len (.t 18)⟩,⟨some 20, some (17, false), .bin .gtr (.t 19) (.c (.int .i64 6))⟩,⟨some 21, some (17, false), .mov (.t 20)⟩,⟨some 22, some (21, true), .mov (.t 1)⟩,⟨some 23, some (21, true), .len (.t 22)⟩,⟨some 24, some (21, true), .bin .leq (.t 23) (.c (.int .i64 12))⟩,⟨some 25, some (17, false), .pick (.t 21) (.t 24) (.c (.bool false))⟩,⟨some 26, none, .pick (.t 17) (.c (.bool true)) (.t 25)⟩])
 (.cond (.t 26) (.seq (.region [⟨some 27, none, .call 15 []⟩,⟨some 4, none, .mov (.t 27)⟩])
 (.ret))
 (.skip)))
 (.seq (.region [⟨some 29, none, .load (.t 2) (some 8)⟩,⟨some 30, none, .mov (.t 1)⟩,⟨some 31, none, .call 20 [(.t 30)]⟩,⟨some 32, none, .call 25 [(.t 29), (.t 31)]⟩,⟨some 28, none, .mov (.t 32)⟩,⟨some 33, none, .ext (.t 28) 0⟩,⟨some 34, none, .ext (.t 28) 1⟩,⟨some 5, none, .mov (.t 33)⟩,⟨some 6, none, .mov (.t 34)⟩])
 (.seq (.region [⟨some 36, none, .load (.t 2) (some 8)⟩,⟨some 37, none, .mov (.t 1)⟩,⟨some 38, none, .call 20 [(.t 37)]⟩,⟨some 39, none, .call 24 [(.t 36), (.t 38)]⟩,⟨some 35, none, .mov (.t 39)⟩,⟨some 40, none, .ext (.t 35) 0⟩,⟨some 41, none, .ext (.t 35) 1⟩,⟨some 7, none, .mov (.t 40)⟩,⟨some 8, none, .mov (.t 41)⟩])
 (.seq (.region [⟨some 43, none, .load (.t 2) (some 8)⟩,⟨some 44, none, .mov (.t 1)⟩,⟨some 45, none, .call 37 [(.t 43), (.t 44)]⟩,⟨some 42, none, .mov (.t 45)⟩,⟨some 46, none, .ext (.t 42) 0⟩,⟨some 47, none, .ext (.t 42) 1⟩,⟨some 9, none, .mov (.t 46)⟩,⟨some 10, none, .mov (.t 47)⟩])
 (.seq (.seq (.region [⟨some 48, none, .mov (.t 6)⟩,⟨some 49, none, .load (.t 2) (some 8)⟩,⟨some 50, none, .mov (.t 1)⟩,⟨some 51, none, .call 38 [(.t 49), (.t 50)]⟩,⟨some 52, none, .bin .neq (.t 48) (.t 51)⟩,⟨some 53, none, .mov (.t 52)⟩,⟨some 54, some (53, false), .mov (.t 6)⟩,⟨some 55, some (53, false), .bin .neq (.t 54) (.c (.int .i64 0))⟩,⟨some 56, some (53, false), .mov (.t 55)⟩,⟨some 57, some (56, true), .mov (.t 5)⟩,⟨some 58, some (56, true), .len (.t 57)⟩,⟨some 59, some (56, true), .bin .gtr (.t 58) (.c (.int .i64 0))⟩,⟨some 60, some (53, false), .pick (.t 56) (.t 59) (.c (.bool false))⟩,⟨some 61, none, .pick (.t 53) (.c (.bool true)) (.t 60)⟩,⟨some 62, none, .mov (.t 61)⟩,⟨some 63, some (62, false), .mov (.t 7)⟩,⟨some 64, some (62, false), .mov (.t 9)⟩,⟨some 65, some (62, false), .bin .neq (.t 63) (.t 64)⟩,⟨some 66, none, .pick (.t 62) (.c (.bool true)) (.t 65)⟩,⟨some 67, none, .mov (.t 66)⟩,⟨some 68, some (67, false), .mov (.t 8)⟩,⟨some 69, some (67, false), .mov (.t 10)⟩,⟨some 70, some (67, false), .bin .neq (.t 68) (.t 69)⟩,⟨some 71, none, .pick (.t 67) (.c (.bool true)) (.t 70)⟩])
 (.cond (.t 71) (.seq (.region [⟨some 4, none, .mov (.c (.bool false))⟩])
 (.ret))
 (.skip)))
 (.seq (.seq (.region [⟨some 72, none, .mov (.t 6)⟩,⟨some 73, none, .bin .neq (.t 72) (.c (.int .i64 0))⟩])
 (.cond (.t 73) (.seq (.region [⟨some 74, none, .call 15 []⟩,⟨some 4, none, .mov (.t 74)⟩])
 (.ret))
 (.skip)))
 (.seq (.seq (.region [⟨some 75, none, .mov (.t 5)⟩,⟨some 76, none, .len (.t 75)⟩,⟨some 77, none, .mov (.t 1)⟩,⟨some 78, none, .len (.t 77)⟩,⟨some 79, none, .bin .neq (.t 76) (.t 78)⟩])
 (.cond (.t 79) (.seq (.region [⟨some 4, none, .mov (.c (.bool false))⟩])
 (.ret))
 (.skip)))
 (.seq (.region [⟨some 80, none, .mov (.t 1)⟩,⟨some 81, none, .mov (.t 5)⟩,⟨some 82, none, .call 26 [(.t 80), (.t 81)]⟩,⟨some 11, none, .mov (.t 82)⟩])
 (.seq (.seq (.region [⟨some 83, none, .load (.t 2) (some 8)⟩,⟨some 84, none, .mov (.t 11)⟩,⟨some 85, none, .call 27 [(.t 83), (.t 84)]⟩,⟨some 86, none, .bin .neq (.t 85) (.c (.int .i64 0))⟩])
 (.cond (.t 86) (.seq (.region [⟨some 4, none, .mov (.c (.bool false))⟩])
 (.ret))
 (.skip)))
 (.seq (.region [⟨some 88, none, .load (.t 2) (some 8)⟩,⟨some 89, none, .mov (.t 11)⟩,⟨some 90, none, .call 33 [(.t 88), (.t 89)]⟩,⟨some 87, none, .mov (.t 90)⟩,⟨some 91, none, .ext (.t 87) 0⟩,⟨some 92, none, .ext (.t 87) 1⟩,⟨some 93, none, .ext (.t 87) 2⟩,⟨some 12, none, .mov (.t 91)⟩,⟨some 13, none, .mov (.t 92)⟩,⟨some 14, none, .mov (.t 93)⟩])
 (.seq (.region [⟨some 94, none, .mov (.t 12)⟩,⟨some 95, none, .bin .eql (.t 94) (.c (.int .i64 (-1)))⟩,⟨some 96, none, .mov (.t 95)⟩,⟨some 97, some (96, true), .call 15 []⟩,⟨some 98, none, .pick (.t 96) (.t 97) (.c (.bool false))⟩,⟨some 4, none, .mov (.t 98)⟩])
 (.ret))))))))))))
def r11 : List Res := [.t 4]
def a11 : AFn := ⟨2, c11, r11, .v⟩

/-- bijou/bijoulaw06.TurnNext -/
def c12 : ACode := .seq (.region [⟨some 3, none, .box (.t 0) 8⟩,⟨some 5, none, .box (.t 2) 6⟩,⟨some 6, none, .mov (.c (.bool false))⟩])
 (.seq (.seq (.region [⟨some 11, none, .mov (.t 1)⟩,⟨some 12, none, .call 30 [(.t 11)]⟩])
 (.cond (.t 12) (.seq (.region [⟨some 13, none, .call 15 []⟩,⟨some 6, none, .mov (.t 13)⟩])
 (.ret))
 (.skip)))
 (.seq (.region [⟨some 15, none, .load (.t 3) (some 8)⟩,⟨some 16, none, .mov (.t 1)⟩,⟨some 18, none, .load (.t 5) (some 6)⟩,⟨some 17, none, .call 20 [(.t 16)]⟩,⟨some 19, none, .call 29 [(.t 15), (.t 17), (.t 18)]⟩,⟨some 14, none, .mov (.t 19)⟩,⟨some 20, none, .ext (.t 14) 0⟩,⟨some 21, none, .ext (.t 14) 1⟩,⟨some 7, none, .mov (.t 20)⟩,⟨some 8, none, .mov (.t 21)⟩])
 (.seq (.region [⟨some 23, none, .load (.t 3) (some 8)⟩,⟨some 24, none, .mov (.t 1)⟩,⟨some 25, none, .load (.t 5) (some 6)⟩,⟨some 26, none, .call 39 [(.t 23), (.t 24), (.t 25)]⟩,⟨some 22, none, .mov (.t 26)⟩,⟨some 27, none, .ext (.t 22) 0⟩,⟨some 28, none, .ext (.t 22) 1⟩,⟨some 9, none, .mov (.t 27)⟩,⟨some 10, none, .mov (.t 28)⟩])
 (.seq (.region [⟨some 29, none, .mov (.t 7)⟩,⟨some 30, none, .mov (.t 9)⟩,⟨some 31, none, .bin .eql (.t 29) (.t 30)⟩,⟨some 32, none, .mov (.t 31)⟩,⟨some 33, some (32, true), .mov (.t 8)⟩,⟨some 34, some (32, true), .mov (.t 10)⟩,⟨some 35, some (32, true), .bin .eql (.t 33) (.t 34)⟩,⟨some 36, none, .pick (.t 32) (.t 35) (.c (.bool false))⟩,⟨some 37, none, .mov (.t 36)⟩,⟨some 38, some (37, true), .call 15 []⟩,⟨some 39, none, .pick (.t 37) (.t 38) (.c (.bool false))⟩,⟨some 6, none, .mov (.t 39)⟩])
 (.ret)))))
def r12 : List Res := [.t 6]
def a12 : AFn := ⟨3, c12, r12, .v⟩

/-- bijou/bijoulaw06.valid -/
def c13 : ACode := .seq (.region [⟨some 2, none, .box (.t 0) 8⟩,⟨some 4, none, .mov (.c (.bool false))⟩])
 (.seq (.region [⟨some 5, none, .mov (.t 1)⟩,⟨some 6, none, .call 30 [(.t 5)]⟩,⟨some 7, none, .not (.t 6)⟩,⟨some 8, none, .mov (.t 7)⟩,⟨some 9, some (8, true), .load (.t 2) (some 8)⟩,⟨some 10, some (8, true), .mov (.t 1)⟩,⟨some 11, some (8, true), .call 27 [(.t 9), (.t 10)]⟩,⟨some 12, some (8, true), .bin .eql (.t 11) (.c (.int .i64 0))⟩,⟨some 13, none, .pick (.t 8) (.t 12) (.c (.bool false))⟩,⟨some 4, none, .mov (.t 13)⟩])
 (.ret))
def r13 : List Res := [.t 4]
def a13 : AFn := ⟨2, c13, r13, .v⟩

/-- bijou/bijouref06.IsCase -/
def c14 : ACode := .seq (.region [⟨some 3, none, .box (.t 0) 8⟩,⟨some 5, none, .box (.t 2) 3⟩,⟨some 6, none, .mov (.c (.bool false))⟩])
 (.seq (.seq (.region [⟨some 8, none, .addr (.t 5) 0⟩,⟨some 9, none, .load (.t 8) none⟩,⟨some 10, none, .len (.t 9)⟩,⟨some 11, none, .mov (.t 1)⟩,⟨some 12, none, .len (.t 11)⟩,⟨some 13, none, .bin .neq (.t 10) (.t 12)⟩,⟨some 14, none, .mov (.t 13)⟩,⟨some 15, some (14, false), .addr (.t 5) 1⟩,⟨some 16, some (14, false), .load (.t 15) none⟩,⟨some 17, some (14, false), .len (.t 16)⟩,⟨some 18, some (14, false), .mov (.t 1)⟩,⟨some 19, some (14, false), .len (.t 18)⟩,⟨some 20, some (14, false), .bin .neq (.t 17) (.t 19)⟩,⟨some 21, none, .pick (.t 14) (.c (.bool true)) (.t 20)⟩,⟨some 22, none, .mov (.t 21)⟩,⟨some 23, some (22, false), .addr (.t 5) 2⟩,⟨some 24, some (22, false), .load (.t 23) none⟩,⟨some 25, some (22, false), .addr (.t 3) 4⟩,⟨some 26, some (22, false), .addr (.t 25) 0⟩,⟨some 27, some (22, false), .load (.t 26) none⟩,⟨some 28, some (22, false), .addr (.t 3) 4⟩,⟨some 29, some (22, false), .addr (.t 28) 1⟩,⟨some 30, some (22, false), .load (.t 29) none⟩,⟨some 31, some (22, false), .call 40 [(.t 24), (.t 27), (.t 30)]⟩,⟨some 32, some (22, false), .not (.t 31)⟩,⟨some 33, none, .pick (.t 22) (.c (.bool true)) (.t 32)⟩])
 (.cond (.t 33) (.seq (.region [⟨some 6, none, .mov (.c (.bool false))⟩])
 (.ret))
 (.skip)))
 (.seq (.seq (.region [⟨some 7, none, .mov (.c (.int .i64 0))⟩])
 (.block 0 (.loop (.seq (.seq (.region [⟨some 34, none, .mov (.t 7)⟩,⟨some 35, none, .mov (.t 1)⟩,⟨some 36, none, .len (.t 35)⟩,⟨some 37, none, .bin .lss (.t 34) (.t 36)⟩])
 (.cond (.t 37) (.skip)
 (.exit 0)))
 (.seq (.block 1 (.seq (.region [⟨some 40, none, .addr (.t 5) 0⟩,⟨some 41, none, .load (.t 40) none⟩,⟨some 42, none, .mov (.t 7)⟩,⟨some 43, none, .idx (.t 41) (.t 42) 1⟩,⟨some 44, none, .load (.t 43) none⟩,⟨some 45, none, .mov (.t 1)⟩,⟨some 46, none, .mov (.t 7)⟩,⟨some 47, none, .idx (.t 45) (.t 46) 6⟩,⟨some 48, none, .addr (.t 47) 2⟩,⟨some 49, none, .addr (.t 48) 0⟩,⟨some 50, none, .load (.t 49) none⟩,⟨some 51, none, .mov (.t 1)⟩,⟨some 52, none, .mov (.t 7)⟩,⟨some 53, none, .idx (.t 51) (.t 52) 6⟩,⟨some 54, none, .addr (.t 53) 2⟩,⟨some 55, none, .addr (.t 54) 1⟩,⟨some 56, none, .load (.t 55) none⟩,⟨some 57, none, .call 40 [(.t 44), (.t 50), (.t 56)]⟩,⟨some 58, none, .not (.t 57)⟩,⟨some 59, none, .mov (.t 58)⟩,⟨some 60, some (59, false), .addr (.t 5) 1⟩,⟨some 61, some (59, false), .load (.t 60) none⟩,⟨some 62, some (59, false), .mov (.t 7)⟩,⟨some 63, some (59, false), .idx (.t 61) (.t 62) 1⟩,⟨some 64, some (59, false), .load (.t 63) none⟩,⟨some 65, some (59, false), .addr (.t 3) 6⟩,⟨some 66, some (59, false), .addr (.t 65) 0⟩,⟨some 67, some (59, false), .load (.t 66) none⟩,⟨some 68, some (59, false), .addr (.t 3) 6⟩,⟨some 69, some (59, false), .addr (.t 68) 1⟩,⟨some 70, some (59, false), .load (.t 69) none⟩,⟨some 71, some (59, false), .call 40 [(.t 64), (.t 67), (.t 70)]⟩,⟨some 72, some (59, false), .not (.t 71)⟩,⟨some 73, none, .pick (.t 59) (.c (.bool true)) (.t 72)⟩])
 (.cond (.t 73) (.seq (.region [⟨some 6, none, .mov (.c (.bool false))⟩])
 (.ret))
 (.skip))))
 (.region [⟨some 38, none, .mov (.t 7)⟩,⟨some 39, none, .bin .add (.t 38) (.c (.int .i64 1))⟩,⟨some 7, none, .mov (.t 39)⟩]))))))
 (.seq (.region [⟨some 6, none, .mov (.c (.bool true))⟩])
 (.ret))))
def r14 : List Res := [.t 6]
def a14 : AFn := ⟨3, c14, r14, .v⟩

/-- bijou/bijoulaw06.works -/
def c15 : ACode := .seq (.region [⟨some 0, none, .mov (.c (.bool false))⟩])
 (.seq (.region [⟨some 10, none, .call 41 []⟩,⟨some 9, none, .mov (.t 10)⟩,⟨some 11, none, .ext (.t 9) 0⟩,⟨some 12, none, .ext (.t 9) 1⟩,⟨some 1, none, .new (.agg [(.int .i64 0), (.int .i64 0), (.int .i64 0), (.int .i64 0), (.int .i64 0), (.int .i64 0), (.int .i64 0), (.int .i64 0)]) 8⟩,⟨none, none, .store (.t 1) (.t 11) 8⟩,⟨some 2, none, .mov (.t 12)⟩])
 (.seq (.region [⟨some 14, none, .load (.t 1) (some 8)⟩,⟨some 15, none, .mov (.t 2)⟩,⟨some 16, none, .call 16 [(.t 14), (.t 15)]⟩,⟨some 13, none, .mov (.t 16)⟩,⟨some 17, none, .ext (.t 13) 0⟩,⟨some 18, none, .ext (.t 13) 1⟩,⟨some 3, none, .mov (.t 17)⟩,⟨some 4, none, .mov (.t 18)⟩])
 (.seq (.region [⟨some 20, none, .load (.t 1) (some 8)⟩,⟨some 21, none, .mov (.t 2)⟩,⟨some 22, none, .call 21 [(.t 20), (.t 21), (.c (.int .i64 95))]⟩,⟨some 19, none, .mov (.t 22)⟩,⟨some 23, none, .ext (.t 19) 0⟩,⟨some 24, none, .ext (.t 19) 1⟩,⟨some 5, none, .new (.agg [(.int .i64 0), (.int .i64 0)]) 2⟩,⟨none, none, .store (.t 5) (.t 23) 2⟩,⟨some 6, none, .mov (.t 24)⟩])
 (.seq (.region [⟨some 26, none, .load (.t 1) (some 8)⟩,⟨some 27, none, .mov (.t 2)⟩,⟨some 28, none, .build [(.int .i64 0), (.int .i64 0)] [(0, 1, (.c (.int .i64 1))), (1, 1, (.c (.int .i64 1)))]⟩,⟨some 29, none, .build [(.int .i64 0), (.int .i64 0), (.int .i64 0), (.int .i64 0), (.int .i64 0), (.int .i64 0)] [(2, 2, (.t 28)), (4, 1, (.c (.int .i64 40)))]⟩,⟨some 30, none, .call 29 [(.t 26), (.t 27), (.t 29)]⟩,⟨some 25, none, .mov (.t 30)⟩,⟨some 31, none, .ext (.t 25) 0⟩,⟨some 32, none, .ext (.t 25) 1⟩,⟨some 7, none, .mov (.t 31)⟩,⟨some 8, none, .mov (.t 32)⟩])
 (.seq (.region [⟨some 33, none, .mov (.t 4)⟩,⟨some 34, none, .bin .eql (.t 33) (.c (.int .i64 0))⟩,⟨some 35, none, .mov (.t 34)⟩,⟨some 36, some (35, true), .mov (.t 6)⟩,⟨some 37, some (35, true), .bin .eql (.t 36) (.c (.int .i64 0))⟩,⟨some 38, none, .pick (.t 35) (.t 37) (.c (.bool false))⟩,⟨some 39, none, .mov (.t 38)⟩,⟨some 40, some (39, true), .mov (.t 8)⟩,⟨some 41, some (39, true), .bin .eql (.t 40) (.c (.int .i64 0))⟩,⟨some 42, none, .pick (.t 39) (.t 41) (.c (.bool false))⟩,⟨some 43, none, .mov (.t 42)⟩,⟨some 44, some (43, true), .mov (.t 3)⟩,⟨some 45, some (43, true), .len (.t 44)⟩,⟨some 46, some (43, true), .bin .eql (.t 45) (.c (.int .i64 3))⟩,⟨some 47, none, .pick (.t 43) (.t 46) (.c (.bool false))⟩,⟨some 48, none, .mov (.t 47)⟩,⟨some 49, some (48, true), .mov (.t 3)⟩,⟨some 50, some (48, true), .idx (.t 49) (.c (.int .i64 1)) 10⟩,⟨some 51, some (48, true), .addr (.t 50) 8⟩,⟨some 52, some (48, true), .load (.t 51) (some 2)⟩,⟨some 53, some (48, true), .build [(.int .i64 0), (.int .i64 0)] [(0, 1, (.c (.int .i64 215))), (1, 1, (.c (.int .i64 237)))]⟩,⟨some 54, some (48, true), .eqv false true [.i, .i] (.t 52) (.t 53)⟩,⟨some 55, none, .pick (.t 48) (.t 54) (.c (.bool false))⟩,⟨some 56, none, .mov (.t 55)⟩,⟨some 57, some (56, true), .load (.t 5) (some 2)⟩,⟨some 58, some (56, true), .build [(.int .i64 0), (.int .i64 0)] [(0, 1, (.c (.int .i64 10))), (1, 1, (.c (.int .i64 20)))]⟩,⟨some 59, some (56, true), .eqv false true [.i, .i] (.t 57) (.t 58)⟩,⟨some 60, none, .pick (.t 56) (.t 59) (.c (.bool false))⟩,⟨some 61, none, .mov (.t 60)⟩,⟨some 62, some (61, true), .mov (.t 7)⟩,⟨some 63, some (61, true), .bin .eql (.t 62) (.c (.int .i64 348))⟩,⟨some 64, none, .pick (.t 61) (.t 63) (.c (.bool false))⟩,⟨some 0, none, .mov (.t 64)⟩])
 (.ret))))))
def r15 : List Res := [.t 0]
def a15 : AFn := ⟨0, c15, r15, .v⟩

/-- bijou/turn.Times -/
def c16 : ACode := .seq (.region [⟨some 2, none, .box (.t 0) 8⟩,⟨some 4, none, .mov (.c (.sl [] .tight))⟩,⟨some 5, none, .mov (.c (.int .i64 0))⟩])
 (.seq (.seq (.region [⟨some 12, none, .load (.t 2) (some 8)⟩,⟨some 13, none, .mov (.t 1)⟩,⟨some 14, none, .call 31 [(.t 12), (.t 13)]⟩,⟨some 6, none, .mov (.t 14)⟩])
 (.seq (.region [⟨some 15, none, .mov (.t 6)⟩,⟨some 16, none, .bin .neq (.t 15) (.c (.int .i64 0))⟩])
 (.cond (.t 16) (.seq (.region [⟨some 17, none, .mov (.t 6)⟩,⟨some 4, none, .mov (.c (.sl [] .tight))⟩,⟨some 5, none, .mov (.t 17)⟩])
 (.ret))
 (.skip))))
 (.seq (.region [⟨some 7, none, .mov (.c (.sl [] .tight))⟩])
 (.seq (.region [⟨some 18, none, .load (.t 2) (some 8)⟩,⟨some 20, none, .load (.t 2) (some 8)⟩,⟨none, none, .mov (.c .undef)⟩,⟨none, none, .mov (.c .undef)⟩,⟨some 19, none, .call 42 [(.t 18)]⟩,⟨some 21, none, .call 43 [(.t 20)]⟩,⟨some 8, none, .box (.t 19) 21⟩,⟨some 9, none, .box (.t 21) 21⟩])
 (.seq (.seq (.region [⟨some 22, none, .mov (.t 1)⟩,⟨some 23, none, .len (.t 22)⟩,⟨some 24, none, .mov (.c (.int .i64 0))⟩])
 (.block 0 (.loop (.seq (.region [⟨some 25, none, .bin .lss (.t 24) (.t 23)⟩])
 (.seq (.cond (.t 25) (.skip)
 (.exit 0))
 (.seq (.block 1 (.seq (.region [⟨some 26, none, .idx (.t 22) (.t 24) 6⟩,⟨some 27, none, .load (.t 26) (some 6)⟩,⟨some 11, none, .new (.agg [(.int .i64 0), (.int .i64 0), (.int .i64 0), (.int .i64 0), (.int .i64 0), (.int .i64 0)]) 6⟩,⟨none, none, .store (.t 11) (.t 27) 6⟩])
 (.seq (.region [⟨some 28, none, .mov (.t 7)⟩,⟨some 29, none, .load (.t 8) (some 21)⟩,⟨some 30, none, .load (.t 11) (some 6)⟩,⟨some 31, none, .call 45 [(.t 29), (.t 30)]⟩,⟨some 32, none, .load (.t 9) (some 21)⟩,⟨some 33, none, .load (.t 11) (some 6)⟩,⟨some 34, none, .call 45 [(.t 32), (.t 33)]⟩,⟨some 35, none, .call 44 [(.t 31), (.t 34)]⟩,⟨some 36, none, .lit false 45 10 [(.t 35)]⟩,⟨some 37, none, .app false (.t 28) (.t 36) 45 10 80⟩,⟨some 7, none, .mov (.t 37)⟩])
 (.region [⟨some 38, none, .load (.t 8) (some 21)⟩,⟨some 39, none, .load (.t 11) (some 6)⟩,⟨some 40, none, .call 46 [(.t 38), (.t 39)]⟩,⟨some 41, none, .load (.t 9) (some 21)⟩,⟨some 42, none, .load (.t 11) (some 6)⟩,⟨some 43, none, .call 46 [(.t 41), (.t 42)]⟩,⟨none, none, .store (.t 8) (.t 40) 21⟩,⟨none, none, .store (.t 9) (.t 43) 21⟩]))))
 (.region [⟨some 44, none, .bin .add (.t 24) (.c (.int .i64 1))⟩,⟨some 24, none, .mov (.t 44)⟩])))))))
 (.seq (.region [⟨some 45, none, .mov (.t 7)⟩,⟨some 4, none, .mov (.t 45)⟩,⟨some 5, none, .mov (.c (.int .i64 0))⟩])
 (.ret))))))
def r16 : List Res := [.t 4, .t 5]
def a16 : AFn := ⟨2, c16, r16, .v⟩

/-- bijou/turn.Late -/
def c17 : ACode := .seq (.region [⟨some 2, none, .box (.t 0) 8⟩,⟨some 4, none, .mov (.c (.int .i64 0))⟩,⟨some 5, none, .mov (.c (.int .i64 0))⟩,⟨some 6, none, .mov (.c (.int .i64 0))⟩])
 (.seq (.seq (.region [⟨some 11, none, .load (.t 2) (some 8)⟩,⟨some 12, none, .mov (.t 1)⟩,⟨some 13, none, .call 31 [(.t 11), (.t 12)]⟩,⟨some 7, none, .mov (.t 13)⟩])
 (.seq (.region [⟨some 14, none, .mov (.t 7)⟩,⟨some 15, none, .bin .neq (.t 14) (.c (.int .i64 0))⟩])
 (.cond (.t 15) (.seq (.region [⟨some 16, none, .mov (.t 7)⟩,⟨some 4, none, .mov (.c (.int .i64 0))⟩,⟨some 5, none, .mov (.c (.int .i64 0))⟩,⟨some 6, none, .mov (.t 16)⟩])
 (.ret))
 (.skip))))
 (.seq (.region [⟨some 17, none, .load (.t 2) (some 8)⟩,⟨some 18, none, .call 43 [(.t 17)]⟩,⟨some 8, none, .new (.agg [(.int .i64 0), (.int .i64 0), (.int .i64 0), (.int .i64 0), (.int .i64 0), (.int .i64 0), (.int .i64 0), (.int .i64 0), (.int .i64 0), (.int .i64 0), .nilf, (.int .i64 0), (.int .i64 0), (.int .i64 0), (.int .i64 0), (.int .i64 0), (.int .i64 0), (.int .i64 0), (.int .i64 0), (.int .i64 0), (.int .i64 0)]) 21⟩,⟨none, none, .store (.t 8) (.t 18) 21⟩])
 (.seq (.seq (.region [⟨some 19, none, .mov (.t 1)⟩,⟨some 20, none, .len (.t 19)⟩,⟨some 21, none, .mov (.c (.int .i64 0))⟩])
 (.block 0 (.loop (.seq (.region [⟨some 22, none, .bin .lss (.t 21) (.t 20)⟩])
 (.seq (.cond (.t 22) (.skip)
 (.exit 0))
 (.seq (.block 1 (.seq (.region [⟨some 23, none, .mov (.t 21)⟩,⟨some 24, none, .idx (.t 19) (.t 21) 6⟩,⟨some 25, none, .load (.t 24) (some 6)⟩,⟨some 10, none, .new (.agg [(.int .i64 0), (.int .i64 0), (.int .i64 0), (.int .i64 0), (.int .i64 0), (.int .i64 0)]) 6⟩,⟨some 9, none, .mov (.t 23)⟩,⟨none, none, .store (.t 10) (.t 25) 6⟩])
 (.seq (.seq (.region [⟨some 26, none, .load (.t 8) (some 21)⟩,⟨some 27, none, .load (.t 10) (some 6)⟩,⟨some 28, none, .call 47 [(.t 26), (.t 27)]⟩])
 (.cond (.t 28) (.seq (.region [⟨some 29, none, .mov (.t 9)⟩,⟨some 30, none, .load (.t 8) (some 21)⟩,⟨some 31, none, .load (.t 10) (some 6)⟩,⟨some 32, none, .call 45 [(.t 30), (.t 31)]⟩,⟨some 33, none, .fld (.t 32) 3 none⟩,⟨some 34, none, .addr (.t 10) 1⟩,⟨some 35, none, .load (.t 34) none⟩,⟨some 36, none, .bin .sub (.t 33) (.t 35)⟩,⟨some 4, none, .mov (.t 29)⟩,⟨some 5, none, .mov (.t 36)⟩,⟨some 6, none, .mov (.c (.int .i64 0))⟩])
 (.ret))
 (.skip)))
 (.region [⟨some 37, none, .load (.t 8) (some 21)⟩,⟨some 38, none, .load (.t 10) (some 6)⟩,⟨some 39, none, .call 46 [(.t 37), (.t 38)]⟩,⟨none, none, .store (.t 8) (.t 39) 21⟩]))))
 (.region [⟨some 40, none, .bin .add (.t 21) (.c (.int .i64 1))⟩,⟨some 21, none, .mov (.t 40)⟩])))))))
 (.seq (.region [⟨some 4, none, .mov (.c (.int .i64 (-1)))⟩,⟨some 5, none, .mov (.c (.int .i64 0))⟩,⟨some 6, none, .mov (.c (.int .i64 0))⟩])
 (.ret)))))
def r17 : List Res := [.t 4, .t 5, .t 6]
def a17 : AFn := ⟨2, c17, r17, .v⟩

/-- bijou/bijouref06.Run -/
def c18 : ACode := .seq (.region [⟨some 3, none, .box (.t 0) 8⟩,⟨some 5, none, .box (.t 2) 3⟩,⟨some 6, none, .mov (.c (.sl [] .tight))⟩])
 (.seq (.region [⟨some 7, none, .mov (.c (.sl [] .tight))⟩])
 (.seq (.seq (.region [⟨some 8, none, .mov (.c (.int .i64 0))⟩])
 (.block 0 (.loop (.seq (.seq (.region [⟨some 13, none, .mov (.t 8)⟩,⟨some 14, none, .mov (.t 1)⟩,⟨some 15, none, .len (.t 14)⟩,⟨some 16, none, .bin .lss (.t 13) (.t 15)⟩])
 (.cond (.t 16) (.skip)
 (.exit 0)))
 (.seq (.block 1 (.seq (.region [⟨some 19, none, .mov (.t 1)⟩,⟨some 20, none, .mov (.t 8)⟩,⟨some 21, none, .idx (.t 19) (.t 20) 6⟩,⟨some 22, none, .load (.t 21) (some 6)⟩,⟨some 9, none, .new (.agg [(.int .i64 0), (.int .i64 0), (.int .i64 0), (.int .i64 0), (.int .i64 0), (.int .i64 0)]) 6⟩,⟨none, none, .store (.t 9) (.t 22) 6⟩])
 (.seq (.region [⟨some 10, none, .new (.agg [(.int .i64 0), (.int .i64 0), (.int .i64 0), (.int .i64 0), (.int .i64 0)]) 5⟩])
 (.seq (.region [⟨some 23, none, .addr (.t 9) 1⟩,⟨some 24, none, .load (.t 23) none⟩,⟨some 25, none, .addr (.t 3) 2⟩,⟨some 26, none, .load (.t 25) none⟩,⟨some 27, none, .bin .sub (.t 24) (.t 26)⟩,⟨some 28, none, .mnx true (.c (.int .i64 0)) (.t 27)⟩,⟨some 29, none, .addr (.t 10) 0⟩,⟨none, none, .store (.t 29) (.t 28) 1⟩])
 (.seq (.region [⟨some 11, none, .mov (.c (.int .i64 0))⟩])
 (.seq (.seq (.region [⟨some 12, none, .mov (.c (.int .i64 0))⟩])
 (.block 2 (.loop (.seq (.seq (.region [⟨some 30, none, .mov (.t 12)⟩,⟨some 31, none, .mov (.t 8)⟩,⟨some 32, none, .bin .lss (.t 30) (.t 31)⟩])
 (.cond (.t 32) (.skip)
 (.exit 2)))
 (.seq (.block 3 (.seq (.seq (.region [⟨some 35, none, .mov (.t 1)⟩,⟨some 36, none, .mov (.t 12)⟩,⟨some 37, none, .idx (.t 35) (.t 36) 6⟩,⟨some 38, none, .addr (.t 37) 0⟩,⟨some 39, none, .load (.t 38) none⟩,⟨some 40, none, .addr (.t 9) 0⟩,⟨some 41, none, .load (.t 40) none⟩,⟨some 42, none, .bin .eql (.t 39) (.t 41)⟩])
 (.cond (.t 42) (.region [⟨some 43, none, .addr (.t 10) 0⟩,⟨some 44, none, .load (.t 43) none⟩,⟨some 45, none, .mov (.t 7)⟩,⟨some 46, none, .mov (.t 12)⟩,⟨some 47, none, .idx (.t 45) (.t 46) 5⟩,⟨some 48, none, .addr (.t 47) 4⟩,⟨some 49, none, .load (.t 48) none⟩,⟨some 50, none, .mnx true (.t 44) (.t 49)⟩,⟨some 51, none, .addr (.t 10) 0⟩,⟨none, none, .store (.t 51) (.t 50) 1⟩])
 (.skip)))
 (.seq (.region [⟨some 52, none, .mov (.t 1)⟩,⟨some 53, none, .mov (.t 12)⟩,⟨some 54, none, .idx (.t 52) (.t 53) 6⟩,⟨some 55, none, .addr (.t 54) 5⟩,⟨some 56, none, .load (.t 55) none⟩,⟨some 57, none, .addr (.t 9) 5⟩,⟨some 58, none, .load (.t 57) none⟩,⟨some 59, none, .bin .eql (.t 56) (.t 58)⟩])
 (.cond (.t 59) (.region [⟨some 60, none, .mov (.t 7)⟩,⟨some 61, none, .mov (.t 12)⟩,⟨some 62, none, .idx (.t 60) (.t 61) 5⟩,⟨some 63, none, .addr (.t 62) 4⟩,⟨some 64, none, .load (.t 63) none⟩,⟨some 65, none, .addr (.t 3) 1⟩,⟨some 66, none, .load (.t 65) none⟩,⟨some 67, none, .bin .add (.t 64) (.t 66)⟩,⟨some 11, none, .mov (.t 67)⟩])
 (.skip)))))
 (.region [⟨some 33, none, .mov (.t 12)⟩,⟨some 34, none, .bin .add (.t 33) (.c (.int .i64 1))⟩,⟨some 12, none, .mov (.t 34)⟩]))))))
 (.seq (.region [⟨some 68, none, .addr (.t 10) 0⟩,⟨some 69, none, .load (.t 68) none⟩,⟨some 70, none, .addr (.t 9) 4⟩,⟨some 71, none, .load (.t 70) none⟩,⟨some 72, none, .addr (.t 5) 2⟩,⟨some 73, none, .load (.t 72) none⟩,⟨some 74, none, .call 48 [(.t 71), (.t 73)]⟩,⟨some 75, none, .bin .add (.t 69) (.t 74)⟩,⟨some 76, none, .addr (.t 10) 1⟩,⟨none, none, .store (.t 76) (.t 75) 1⟩])
 (.seq (.region [⟨some 77, none, .addr (.t 9) 1⟩,⟨some 78, none, .load (.t 77) none⟩,⟨some 79, none, .addr (.t 10) 1⟩,⟨some 80, none, .load (.t 79) none⟩,⟨some 81, none, .mnx true (.t 78) (.t 80)⟩,⟨some 82, none, .addr (.t 10) 2⟩,⟨none, none, .store (.t 82) (.t 81) 1⟩])
 (.seq (.region [⟨some 83, none, .addr (.t 10) 2⟩,⟨some 84, none, .load (.t 83) none⟩,⟨some 85, none, .addr (.t 5) 0⟩,⟨some 86, none, .load (.t 85) none⟩,⟨some 87, none, .mov (.t 8)⟩,⟨some 88, none, .idx (.t 86) (.t 87) 1⟩,⟨some 89, none, .load (.t 88) none⟩,⟨some 90, none, .bin .add (.t 84) (.t 89)⟩,⟨some 91, none, .addr (.t 9) 4⟩,⟨some 92, none, .load (.t 91) none⟩,⟨some 93, none, .addr (.t 5) 2⟩,⟨some 94, none, .load (.t 93) none⟩,⟨some 95, none, .call 48 [(.t 92), (.t 94)]⟩,⟨some 96, none, .bin .add (.t 90) (.t 95)⟩,⟨some 97, none, .addr (.t 10) 3⟩,⟨none, none, .store (.t 97) (.t 96) 1⟩])
 (.seq (.region [⟨some 98, none, .addr (.t 10) 3⟩,⟨some 99, none, .load (.t 98) none⟩,⟨some 100, none, .mov (.t 11)⟩,⟨some 101, none, .mnx true (.t 99) (.t 100)⟩,⟨some 102, none, .addr (.t 5) 1⟩,⟨some 103, none, .load (.t 102) none⟩,⟨some 104, none, .mov (.t 8)⟩,⟨some 105, none, .idx (.t 103) (.t 104) 1⟩,⟨some 106, none, .load (.t 105) none⟩,⟨some 107, none, .bin .add (.t 101) (.t 106)⟩,⟨some 108, none, .addr (.t 10) 4⟩,⟨none, none, .store (.t 108) (.t 107) 1⟩])
 (.region [⟨some 109, none, .mov (.t 7)⟩,⟨some 110, none, .load (.t 10) (some 5)⟩,⟨some 111, none, .lit false 42 5 [(.t 110)]⟩,⟨some 112, none, .app false (.t 109) (.t 111) 42 5 40⟩,⟨some 7, none, .mov (.t 112)⟩])))))))))))
 (.region [⟨some 17, none, .mov (.t 8)⟩,⟨some 18, none, .bin .add (.t 17) (.c (.int .i64 1))⟩,⟨some 8, none, .mov (.t 18)⟩]))))))
 (.seq (.region [⟨some 113, none, .mov (.t 7)⟩,⟨some 6, none, .mov (.t 113)⟩])
 (.ret))))
def r18 : List Res := [.t 6]
def a18 : AFn := ⟨3, c18, r18, .v⟩

/-- bijou/bijoulaw06.in -/
def c19 : ACode := .seq (.region [⟨some 2, none, .box (.t 0) 2⟩,⟨some 4, none, .mov (.c (.bool false))⟩])
 (.seq (.region [⟨some 5, none, .addr (.t 2) 0⟩,⟨some 6, none, .load (.t 5) none⟩,⟨some 7, none, .mov (.t 1)⟩,⟨some 8, none, .bin .leq (.t 6) (.t 7)⟩,⟨some 9, none, .mov (.t 8)⟩,⟨some 10, some (9, true), .mov (.t 1)⟩,⟨some 11, some (9, true), .addr (.t 2) 1⟩,⟨some 12, some (9, true), .load (.t 11) none⟩,⟨some 13, some (9, true), .bin .leq (.t 10) (.t 12)⟩,⟨some 14, none, .pick (.t 9) (.t 13) (.c (.bool false))⟩,⟨some 4, none, .mov (.t 14)⟩])
 (.ret))
def r19 : List Res := [.t 4]
def a19 : AFn := ⟨2, c19, r19, .v⟩

/-- bijou/bijoulaw06.copied -/
def c20 : ACode := .seq (.region [⟨some 2, none, .mov (.c (.sl [] .tight))⟩])
 (.seq (.region [⟨some 3, none, .lit false 47 6 []⟩,⟨some 4, none, .mov (.t 0)⟩,⟨some 5, none, .app0 (.t 3) (.t 4) 47 6 48⟩,⟨some 2, none, .mov (.t 5)⟩])
 (.ret))
def r20 : List Res := [.t 2]
def a20 : AFn := ⟨1, c20, r20, .o⟩

/-- bijou/turn.Waiting -/
def c21 : ACode := .seq (.region [⟨some 3, none, .box (.t 0) 8⟩,⟨some 6, none, .new (.agg [(.int .i64 0), (.int .i64 0)]) 2⟩,⟨some 7, none, .mov (.c (.int .i64 0))⟩])
 (.seq (.seq (.region [⟨some 11, none, .load (.t 3) (some 8)⟩,⟨some 12, none, .mov (.t 1)⟩,⟨some 13, none, .call 31 [(.t 11), (.t 12)]⟩,⟨some 8, none, .mov (.t 13)⟩])
 (.seq (.region [⟨some 14, none, .mov (.t 8)⟩,⟨some 15, none, .bin .neq (.t 14) (.c (.int .i64 0))⟩])
 (.cond (.t 15) (.seq (.region [⟨some 16, none, .build [(.int .i64 0), (.int .i64 0)] []⟩,⟨some 17, none, .mov (.t 8)⟩,⟨none, none, .store (.t 6) (.t 16) 2⟩,⟨some 7, none, .mov (.t 17)⟩])
 (.ret))
 (.skip))))
 (.seq (.seq (.region [⟨some 18, none, .mov (.t 2)⟩,⟨some 19, none, .call 49 [(.t 18), (.c (.int .i64 0)), (.c (.int .i64 9999))]⟩,⟨some 20, none, .not (.t 19)⟩])
 (.cond (.t 20) (.seq (.region [⟨some 21, none, .build [(.int .i64 0), (.int .i64 0)] []⟩,⟨none, none, .store (.t 6) (.t 21) 2⟩,⟨some 7, none, .mov (.c (.int .i64 1))⟩])
 (.ret))
 (.skip)))
 (.seq (.region [⟨some 22, none, .load (.t 3) (some 8)⟩,⟨some 24, none, .load (.t 3) (some 8)⟩,⟨none, none, .mov (.c .undef)⟩,⟨none, none, .mov (.c .undef)⟩,⟨some 23, none, .call 42 [(.t 22)]⟩,⟨some 25, none, .call 43 [(.t 24)]⟩,⟨some 9, none, .box (.t 23) 21⟩,⟨some 10, none, .box (.t 25) 21⟩])
 (.seq (.region [⟨some 26, none, .load (.t 9) (some 21)⟩,⟨some 27, none, .mov (.t 1)⟩,⟨some 28, none, .mov (.t 2)⟩,⟨some 29, none, .call 50 [(.t 26), (.t 27), (.t 28)]⟩,⟨some 30, none, .load (.t 10) (some 21)⟩,⟨some 31, none, .mov (.t 1)⟩,⟨some 32, none, .mov (.t 2)⟩,⟨some 33, none, .call 50 [(.t 30), (.t 31), (.t 32)]⟩,⟨some 34, none, .build [(.int .i64 0), (.int .i64 0)] [(0, 1, (.t 29)), (1, 1, (.t 33))]⟩,⟨none, none, .store (.t 6) (.t 34) 2⟩,⟨some 7, none, .mov (.c (.int .i64 0))⟩])
 (.ret)))))
def r21 : List Res := [.cell 6 (some 2), .t 7]
def a21 : AFn := ⟨3, c21, r21, .v⟩

/-- bijou/turn.Crowded -/
def c22 : ACode := .seq (.region [⟨some 2, none, .box (.t 0) 8⟩,⟨some 4, none, .mov (.c (.int .i64 0))⟩,⟨some 5, none, .mov (.c (.int .i64 0))⟩])
 (.seq (.seq (.region [⟨some 9, none, .load (.t 2) (some 8)⟩,⟨some 10, none, .mov (.t 1)⟩,⟨some 11, none, .call 31 [(.t 9), (.t 10)]⟩,⟨some 6, none, .mov (.t 11)⟩])
 (.seq (.region [⟨some 12, none, .mov (.t 6)⟩,⟨some 13, none, .bin .neq (.t 12) (.c (.int .i64 0))⟩])
 (.cond (.t 13) (.seq (.region [⟨some 14, none, .mov (.t 6)⟩,⟨some 4, none, .mov (.c (.int .i64 0))⟩,⟨some 5, none, .mov (.t 14)⟩])
 (.ret))
 (.skip))))
 (.seq (.region [⟨some 15, none, .load (.t 2) (some 8)⟩,⟨some 16, none, .call 43 [(.t 15)]⟩,⟨some 7, none, .new (.agg [(.int .i64 0), (.int .i64 0), (.int .i64 0), (.int .i64 0), (.int .i64 0), (.int .i64 0), (.int .i64 0), (.int .i64 0), (.int .i64 0), (.int .i64 0), .nilf, (.int .i64 0), (.int .i64 0), (.int .i64 0), (.int .i64 0), (.int .i64 0), (.int .i64 0), (.int .i64 0), (.int .i64 0), (.int .i64 0), (.int .i64 0)]) 21⟩,⟨none, none, .store (.t 7) (.t 16) 21⟩])
 (.seq (.seq (.region [⟨some 17, none, .mov (.c (.int .i64 0))⟩])
 (.block 0 (.loop (.seq (.region [⟨some 18, none, .bin .lss (.t 17) (.c (.int .i64 2001))⟩])
 (.seq (.cond (.t 18) (.skip)
 (.exit 0))
 (.seq (.block 1 (.seq (.region [⟨some 19, none, .mov (.t 17)⟩,⟨some 8, none, .mov (.t 19)⟩])
 (.seq (.region [⟨some 20, none, .load (.t 7) (some 21)⟩,⟨some 21, none, .mov (.t 1)⟩,⟨some 22, none, .mov (.t 8)⟩,⟨some 23, none, .call 50 [(.t 20), (.t 21), (.t 22)]⟩,⟨some 24, none, .addr (.t 2) 3⟩,⟨some 25, none, .load (.t 24) none⟩,⟨some 26, none, .bin .gtr (.t 23) (.t 25)⟩])
 (.cond (.t 26) (.seq (.region [⟨some 27, none, .mov (.t 8)⟩,⟨some 4, none, .mov (.t 27)⟩,⟨some 5, none, .mov (.c (.int .i64 0))⟩])
 (.ret))
 (.skip)))))
 (.region [⟨some 28, none, .bin .add (.t 17) (.c (.int .i64 1))⟩,⟨some 17, none, .mov (.t 28)⟩])))))))
 (.seq (.region [⟨some 4, none, .mov (.c (.int .i64 (-1)))⟩,⟨some 5, none, .mov (.c (.int .i64 0))⟩])
 (.ret)))))
def r22 : List Res := [.t 4, .t 5]
def a22 : AFn := ⟨2, c22, r22, .v⟩

/-- bijou/bijouref06.Waits -/
def c23 : ACode := .seq (.region [⟨some 4, none, .box (.t 0) 8⟩,⟨some 6, none, .box (.t 2) 3⟩,⟨some 8, none, .mov (.c (.int .i64 0))⟩])
 (.seq (.region [⟨some 12, none, .load (.t 4) (some 8)⟩,⟨some 13, none, .mov (.t 1)⟩,⟨some 14, none, .load (.t 6) (some 3)⟩,⟨some 15, none, .call 18 [(.t 12), (.t 13), (.t 14)]⟩,⟨some 9, none, .mov (.t 15)⟩])
 (.seq (.region [⟨some 10, none, .mov (.c (.int .i64 0))⟩])
 (.seq (.seq (.region [⟨some 11, none, .mov (.c (.int .i64 0))⟩])
 (.block 0 (.loop (.seq (.seq (.region [⟨some 16, none, .mov (.t 11)⟩,⟨some 17, none, .mov (.t 1)⟩,⟨some 18, none, .len (.t 17)⟩,⟨some 19, none, .bin .lss (.t 16) (.t 18)⟩])
 (.cond (.t 19) (.skip)
 (.exit 0)))
 (.seq (.block 1 (.seq (.seq (.region [⟨some 22, none, .mov (.t 3)⟩,⟨some 23, none, .mov (.t 1)⟩,⟨some 24, none, .mov (.t 11)⟩,⟨some 25, none, .idx (.t 23) (.t 24) 6⟩,⟨some 26, none, .addr (.t 25) 1⟩,⟨some 27, none, .load (.t 26) none⟩,⟨some 28, none, .addr (.t 4) 2⟩,⟨some 29, none, .load (.t 28) none⟩,⟨some 30, none, .bin .sub (.t 27) (.t 29)⟩,⟨some 31, none, .mnx true (.c (.int .i64 0)) (.t 30)⟩,⟨some 32, none, .bin .lss (.t 22) (.t 31)⟩])
 (.cond (.t 32) (.exit 1)
 (.skip)))
 (.region [⟨some 33, none, .mov (.t 10)⟩,⟨some 34, none, .mov (.t 1)⟩,⟨some 35, none, .mov (.t 11)⟩,⟨some 36, none, .idx (.t 34) (.t 35) 6⟩,⟨some 37, none, .addr (.t 36) 4⟩,⟨some 38, none, .load (.t 37) none⟩,⟨some 39, none, .mov (.t 1)⟩,⟨some 40, none, .mov (.t 11)⟩,⟨some 41, none, .idx (.t 39) (.t 40) 6⟩,⟨some 42, none, .addr (.t 41) 4⟩,⟨some 43, none, .load (.t 42) none⟩,⟨some 44, none, .addr (.t 6) 2⟩,⟨some 45, none, .load (.t 44) none⟩,⟨some 46, none, .mov (.t 3)⟩,⟨some 47, none, .mov (.t 9)⟩,⟨some 48, none, .mov (.t 11)⟩,⟨some 49, none, .idx (.t 47) (.t 48) 5⟩,⟨some 50, none, .addr (.t 49) 0⟩,⟨some 51, none, .load (.t 50) none⟩,⟨some 52, none, .bin .sub (.t 46) (.t 51)⟩,⟨some 53, none, .bin .add (.t 52) (.c (.int .i64 1))⟩,⟨some 54, none, .mnx true (.c (.int .i64 0)) (.t 53)⟩,⟨some 55, none, .bin .mul (.t 45) (.t 54)⟩,⟨some 56, none, .mnx false (.t 43) (.t 55)⟩,⟨some 57, none, .bin .sub (.t 38) (.t 56)⟩,⟨some 58, none, .bin .add (.t 33) (.t 57)⟩,⟨some 10, none, .mov (.t 58)⟩])))
 (.region [⟨some 20, none, .mov (.t 11)⟩,⟨some 21, none, .bin .add (.t 20) (.c (.int .i64 1))⟩,⟨some 11, none, .mov (.t 21)⟩]))))))
 (.seq (.region [⟨some 59, none, .mov (.t 10)⟩,⟨some 8, none, .mov (.t 59)⟩])
 (.ret)))))
def r23 : List Res := [.t 8]
def a23 : AFn := ⟨4, c23, r23, .v⟩

/-- bijou/turn.Fewest -/
def c24 : ACode := .seq (.region [⟨some 2, none, .box (.t 0) 8⟩,⟨some 4, none, .mov (.c (.int .i64 0))⟩,⟨some 5, none, .mov (.c (.int .i64 0))⟩])
 (.seq (.seq (.region [⟨some 10, none, .load (.t 2) (some 8)⟩,⟨some 11, none, .mov (.t 1)⟩,⟨some 12, none, .call 31 [(.t 10), (.t 11)]⟩,⟨some 6, none, .mov (.t 12)⟩])
 (.seq (.region [⟨some 13, none, .mov (.t 6)⟩,⟨some 14, none, .bin .neq (.t 13) (.c (.int .i64 0))⟩])
 (.cond (.t 14) (.seq (.region [⟨some 15, none, .mov (.t 6)⟩,⟨some 4, none, .mov (.c (.int .i64 0))⟩,⟨some 5, none, .mov (.t 15)⟩])
 (.ret))
 (.skip))))
 (.seq (.seq (.region [⟨some 16, none, .mov (.c (.int .i64 0))⟩])
 (.block 0 (.loop (.seq (.region [⟨some 17, none, .bin .lss (.t 16) (.c (.int .i64 4))⟩])
 (.seq (.cond (.t 17) (.skip)
 (.exit 0))
 (.seq (.block 1 (.seq (.region [⟨some 18, none, .mov (.t 16)⟩,⟨some 7, none, .mov (.t 18)⟩])
 (.seq (.region [⟨some 19, none, .mov (.t 7)⟩,⟨some 20, none, .bin .add (.t 19) (.c (.int .i64 1))⟩,⟨some 21, none, .addr (.t 2) 0⟩,⟨none, none, .store (.t 21) (.t 20) 1⟩])
 (.seq (.region [⟨some 23, none, .load (.t 2) (some 8)⟩,⟨some 24, none, .call 43 [(.t 23)]⟩,⟨some 25, none, .mov (.t 1)⟩,⟨some 26, none, .call 51 [(.t 24), (.t 25)]⟩,⟨some 22, none, .mov (.t 26)⟩,⟨some 27, none, .ext (.t 22) 0⟩,⟨some 28, none, .ext (.t 22) 1⟩,⟨some 8, none, .mov (.t 27)⟩,⟨some 9, none, .mov (.t 28)⟩])
 (.seq (.region [⟨some 29, none, .mov (.t 9)⟩])
 (.cond (.t 29) (.seq (.region [⟨some 30, none, .addr (.t 2) 0⟩,⟨some 31, none, .load (.t 30) none⟩,⟨some 4, none, .mov (.t 31)⟩,⟨some 5, none, .mov (.c (.int .i64 0))⟩])
 (.ret))
 (.skip)))))))
 (.region [⟨some 32, none, .bin .add (.t 16) (.c (.int .i64 1))⟩,⟨some 16, none, .mov (.t 32)⟩])))))))
 (.seq (.region [⟨some 4, none, .mov (.c (.int .i64 0))⟩,⟨some 5, none, .mov (.c (.int .i64 3))⟩])
 (.ret))))
def r24 : List Res := [.t 4, .t 5]
def a24 : AFn := ⟨2, c24, r24, .v⟩

/-- bijou/turn.Assign -/
def c25 : ACode := .seq (.region [⟨some 2, none, .box (.t 0) 8⟩,⟨some 4, none, .mov (.c (.sl [] .tight))⟩,⟨some 5, none, .mov (.c (.int .i64 0))⟩])
 (.seq (.seq (.region [⟨some 9, none, .load (.t 2) (some 8)⟩,⟨some 10, none, .mov (.t 1)⟩,⟨some 11, none, .call 31 [(.t 9), (.t 10)]⟩,⟨some 6, none, .mov (.t 11)⟩])
 (.seq (.region [⟨some 12, none, .mov (.t 6)⟩,⟨some 13, none, .bin .neq (.t 12) (.c (.int .i64 0))⟩])
 (.cond (.t 13) (.seq (.region [⟨some 14, none, .mov (.t 6)⟩,⟨some 4, none, .mov (.c (.sl [] .tight))⟩,⟨some 5, none, .mov (.t 14)⟩])
 (.ret))
 (.skip))))
 (.seq (.region [⟨some 16, none, .load (.t 2) (some 8)⟩,⟨some 17, none, .call 43 [(.t 16)]⟩,⟨some 18, none, .mov (.t 1)⟩,⟨some 19, none, .call 51 [(.t 17), (.t 18)]⟩,⟨some 15, none, .mov (.t 19)⟩,⟨some 20, none, .ext (.t 15) 0⟩,⟨some 21, none, .ext (.t 15) 1⟩,⟨some 7, none, .mov (.t 20)⟩,⟨some 8, none, .mov (.t 21)⟩])
 (.seq (.seq (.region [⟨some 22, none, .mov (.t 8)⟩,⟨some 23, none, .not (.t 22)⟩])
 (.cond (.t 23) (.seq (.region [⟨some 4, none, .mov (.c (.sl [] .tight))⟩,⟨some 5, none, .mov (.c (.int .i64 3))⟩])
 (.ret))
 (.skip)))
 (.seq (.region [⟨some 24, none, .mov (.t 7)⟩,⟨some 4, none, .mov (.t 24)⟩,⟨some 5, none, .mov (.c (.int .i64 0))⟩])
 (.ret)))))
def r25 : List Res := [.t 4, .t 5]
def a25 : AFn := ⟨2, c25, r25, .v⟩

/-- bijou/bijouref06.With -/
def c26 : ACode := .seq (.region [⟨some 4, none, .mov (.c (.sl [] .tight))⟩])
 (.seq (.region [⟨some 7, none, .lit false 47 6 []⟩,⟨some 8, none, .mov (.t 0)⟩,⟨some 9, none, .app0 (.t 7) (.t 8) 47 6 48⟩,⟨some 5, none, .mov (.t 9)⟩])
 (.seq (.seq (.region [⟨some 6, none, .mov (.c (.int .i64 0))⟩])
 (.block 0 (.loop (.seq (.seq (.region [⟨some 10, none, .mov (.t 6)⟩,⟨some 11, none, .mov (.t 5)⟩,⟨some 12, none, .len (.t 11)⟩,⟨some 13, none, .bin .lss (.t 10) (.t 12)⟩,⟨some 14, none, .mov (.t 13)⟩,⟨some 15, some (14, true), .mov (.t 6)⟩,⟨some 16, some (14, true), .mov (.t 1)⟩,⟨some 17, some (14, true), .len (.t 16)⟩,⟨some 18, some (14, true), .bin .lss (.t 15) (.t 17)⟩,⟨some 19, none, .pick (.t 14) (.t 18) (.c (.bool false))⟩])
 (.cond (.t 19) (.skip)
 (.exit 0)))
 (.seq (.block 1 (.region [⟨some 22, none, .mov (.t 5)⟩,⟨some 23, none, .mov (.t 6)⟩,⟨some 24, none, .mov (.t 1)⟩,⟨some 25, none, .mov (.t 6)⟩,⟨some 26, none, .idx (.t 24) (.t 25) 1⟩,⟨some 27, none, .load (.t 26) none⟩,⟨some 28, none, .idx (.t 22) (.t 23) 6⟩,⟨some 29, none, .addr (.t 28) 5⟩,⟨none, none, .store (.t 29) (.t 27) 1⟩]))
 (.region [⟨some 20, none, .mov (.t 6)⟩,⟨some 21, none, .bin .add (.t 20) (.c (.int .i64 1))⟩,⟨some 6, none, .mov (.t 21)⟩]))))))
 (.seq (.region [⟨some 30, none, .mov (.t 5)⟩,⟨some 4, none, .mov (.t 30)⟩])
 (.ret))))
def r26 : List Res := [.t 4]
def a26 : AFn := ⟨2, c26, r26, .v⟩

/-- bijou/bijouref06.Check -/
def c27 : ACode := .seq (.region [⟨some 2, none, .box (.t 0) 8⟩,⟨some 4, none, .mov (.c (.int .i64 0))⟩])
 (.seq (.seq (.region [⟨some 7, none, .load (.t 2) (some 8)⟩,⟨some 8, none, .call 52 [(.t 7)]⟩,⟨some 9, none, .not (.t 8)⟩])
 (.cond (.t 9) (.seq (.region [⟨some 4, none, .mov (.c (.int .i64 60))⟩])
 (.ret))
 (.skip)))
 (.seq (.seq (.region [⟨some 10, none, .mov (.t 1)⟩,⟨some 11, none, .len (.t 10)⟩,⟨some 12, none, .bin .gtr (.t 11) (.c (.int .i64 12))⟩])
 (.cond (.t 12) (.seq (.region [⟨some 4, none, .mov (.c (.int .i64 61))⟩])
 (.ret))
 (.skip)))
 (.seq (.seq (.region [⟨some 5, none, .mov (.c (.int .i64 0))⟩])
 (.block 0 (.loop (.seq (.seq (.region [⟨some 13, none, .mov (.t 5)⟩,⟨some 14, none, .mov (.t 1)⟩,⟨some 15, none, .len (.t 14)⟩,⟨some 16, none, .bin .lss (.t 13) (.t 15)⟩])
 (.cond (.t 16) (.skip)
 (.exit 0)))
 (.seq (.block 1 (.seq (.seq (.region [⟨some 19, none, .load (.t 2) (some 8)⟩,⟨some 20, none, .mov (.t 1)⟩,⟨some 21, none, .mov (.t 5)⟩,⟨some 22, none, .idx (.t 20) (.t 21) 6⟩,⟨some 23, none, .load (.t 22) (some 6)⟩,⟨some 24, none, .call 28 [(.t 19), (.t 23)]⟩,⟨some 25, none, .not (.t 24)⟩,⟨some 26, none, .mov (.t 25)⟩,⟨some 27, some (26, false), .mov (.t 1)⟩,⟨some 28, some (26, false), .mov (.t 5)⟩,⟨some 29, some (26, false), .idx (.t 27) (.t 28) 6⟩,⟨some 30, some (26, false), .addr (.t 29) 1⟩,⟨some 31, some (26, false), .load (.t 30) none⟩,⟨some 32, some (26, false), .call 40 [(.t 31), (.c (.int .i64 0)), (.c (.int .i64 2000))]⟩,⟨some 33, some (26, false), .not (.t 32)⟩,⟨some 34, none, .pick (.t 26) (.c (.bool true)) (.t 33)⟩,⟨some 35, none, .mov (.t 34)⟩,⟨some 36, some (35, false), .mov (.t 5)⟩,⟨some 37, some (35, false), .bin .gtr (.t 36) (.c (.int .i64 0))⟩,⟨some 38, some (35, false), .mov (.t 37)⟩,⟨some 39, some (38, true), .mov (.t 1)⟩,⟨some 40, some (38, true), .mov (.t 5)⟩,⟨some 41, some (38, true), .idx (.t 39) (.t 40) 6⟩,⟨some 42, some (38, true), .addr (.t 41) 1⟩,⟨some 43, some (38, true), .load (.t 42) none⟩,⟨some 44, some (38, true), .mov (.t 1)⟩,⟨some 45, some (38, true), .mov (.t 5)⟩,⟨some 46, some (38, true), .bin .sub (.t 45) (.c (.int .i64 1))⟩,⟨some 47, some (38, true), .idx (.t 44) (.t 46) 6⟩,⟨some 48, some (38, true), .addr (.t 47) 1⟩,⟨some 49, some (38, true), .load (.t 48) none⟩,⟨some 50, some (38, true), .bin .lss (.t 43) (.t 49)⟩,⟨some 51, some (35, false), .pick (.t 38) (.t 50) (.c (.bool false))⟩,⟨some 52, none, .pick (.t 35) (.c (.bool true)) (.t 51)⟩])
 (.cond (.t 52) (.seq (.region [⟨some 4, none, .mov (.c (.int .i64 61))⟩])
 (.ret))
 (.skip)))
 (.seq (.region [⟨some 6, none, .mov (.c (.int .i64 0))⟩])
 (.block 2 (.loop (.seq (.seq (.region [⟨some 53, none, .mov (.t 6)⟩,⟨some 54, none, .mov (.t 5)⟩,⟨some 55, none, .bin .lss (.t 53) (.t 54)⟩])
 (.cond (.t 55) (.skip)
 (.exit 2)))
 (.seq (.block 3 (.seq (.region [⟨some 58, none, .mov (.t 1)⟩,⟨some 59, none, .mov (.t 6)⟩,⟨some 60, none, .idx (.t 58) (.t 59) 6⟩,⟨some 61, none, .addr (.t 60) 0⟩,⟨some 62, none, .load (.t 61) none⟩,⟨some 63, none, .mov (.t 1)⟩,⟨some 64, none, .mov (.t 5)⟩,⟨some 65, none, .idx (.t 63) (.t 64) 6⟩,⟨some 66, none, .addr (.t 65) 0⟩,⟨some 67, none, .load (.t 66) none⟩,⟨some 68, none, .bin .eql (.t 62) (.t 67)⟩,⟨some 69, none, .mov (.t 68)⟩,⟨some 70, some (69, true), .mov (.t 1)⟩,⟨some 71, some (69, true), .mov (.t 6)⟩,⟨some 72, some (69, true), .idx (.t 70) (.t 71) 6⟩,⟨some 73, some (69, true), .addr (.t 72) 1⟩,⟨some 74, some (69, true), .load (.t 73) none⟩,⟨some 75, some (69, true), .mov (.t 1)⟩,⟨some 76, some (69, true), .mov (.t 5)⟩,⟨some 77, some (69, true), .idx (.t 75) (.t 76) 6⟩,⟨some 78, some (69, true), .addr (.t 77) 1⟩,⟨some 79, some (69, true), .load (.t 78) none⟩,⟨some 80, some (69, true), .bin .eql (.t 74) (.t 79)⟩,⟨some 81, none, .pick (.t 69) (.t 80) (.c (.bool false))⟩])
 (.cond (.t 81) (.seq (.region [⟨some 4, none, .mov (.c (.int .i64 61))⟩])
 (.ret))
 (.skip))))
 (.region [⟨some 56, none, .mov (.t 6)⟩,⟨some 57, none, .bin .add (.t 56) (.c (.int .i64 1))⟩,⟨some 6, none, .mov (.t 57)⟩]))))))))
 (.region [⟨some 17, none, .mov (.t 5)⟩,⟨some 18, none, .bin .add (.t 17) (.c (.int .i64 1))⟩,⟨some 5, none, .mov (.t 18)⟩]))))))
 (.seq (.region [⟨some 4, none, .mov (.c (.int .i64 0))⟩])
 (.ret)))))
def r27 : List Res := [.t 4]
def a27 : AFn := ⟨2, c27, r27, .v⟩

/-- bijou/bijouref06.IsSlot -/
def c28 : ACode := .seq (.region [⟨some 2, none, .box (.t 0) 8⟩,⟨some 3, none, .box (.t 1) 6⟩,⟨some 4, none, .mov (.c (.bool false))⟩])
 (.seq (.region [⟨some 5, none, .addr (.t 3) 0⟩,⟨some 6, none, .load (.t 5) none⟩,⟨some 7, none, .call 40 [(.t 6), (.c (.int .i64 0)), (.c (.int .i64 5))]⟩,⟨some 8, none, .mov (.t 7)⟩,⟨some 9, some (8, true), .addr (.t 3) 2⟩,⟨some 10, some (8, true), .load (.t 9) (some 2)⟩,⟨some 11, some (8, true), .call 53 [(.t 10), (.c (.int .i64 1)), (.c (.int .i64 400))]⟩,⟨some 12, none, .pick (.t 8) (.t 11) (.c (.bool false))⟩,⟨some 13, none, .mov (.t 12)⟩,⟨some 14, some (13, true), .addr (.t 3) 4⟩,⟨some 15, some (13, true), .load (.t 14) none⟩,⟨some 16, some (13, true), .call 40 [(.t 15), (.c (.int .i64 0)), (.c (.int .i64 500))]⟩,⟨some 17, none, .pick (.t 13) (.t 16) (.c (.bool false))⟩,⟨some 18, none, .mov (.t 17)⟩,⟨some 19, some (18, true), .addr (.t 3) 5⟩,⟨some 20, some (18, true), .load (.t 19) none⟩,⟨some 21, some (18, true), .addr (.t 2) 0⟩,⟨some 22, some (18, true), .load (.t 21) none⟩,⟨some 23, some (18, true), .bin .sub (.t 22) (.c (.int .i64 1))⟩,⟨some 24, some (18, true), .call 40 [(.t 20), (.c (.int .i64 0)), (.t 23)]⟩,⟨some 25, none, .pick (.t 18) (.t 24) (.c (.bool false))⟩,⟨some 4, none, .mov (.t 25)⟩])
 (.ret))
def r28 : List Res := [.t 4]
def a28 : AFn := ⟨2, c28, r28, .v⟩

/-- bijou/turn.Next -/
def c29 : ACode := .seq (.region [⟨some 3, none, .box (.t 0) 8⟩,⟨some 5, none, .box (.t 2) 6⟩,⟨some 6, none, .mov (.c (.int .i64 0))⟩,⟨some 7, none, .mov (.c (.int .i64 0))⟩])
 (.seq (.seq (.region [⟨some 13, none, .load (.t 3) (some 8)⟩,⟨some 14, none, .mov (.t 1)⟩,⟨some 15, none, .call 31 [(.t 13), (.t 14)]⟩,⟨some 8, none, .mov (.t 15)⟩])
 (.seq (.region [⟨some 16, none, .mov (.t 8)⟩,⟨some 17, none, .bin .neq (.t 16) (.c (.int .i64 0))⟩])
 (.cond (.t 17) (.seq (.region [⟨some 18, none, .mov (.t 8)⟩,⟨some 6, none, .mov (.c (.int .i64 0))⟩,⟨some 7, none, .mov (.t 18)⟩])
 (.ret))
 (.skip))))
 (.seq (.seq (.region [⟨some 19, none, .mov (.t 1)⟩,⟨some 20, none, .len (.t 19)⟩,⟨some 21, none, .bin .eql (.t 20) (.c (.int .i64 12))⟩,⟨some 22, none, .mov (.t 21)⟩,⟨some 23, some (22, false), .load (.t 3) (some 8)⟩,⟨some 24, some (22, false), .load (.t 5) (some 6)⟩,⟨some 25, some (22, false), .call 54 [(.t 23), (.t 24)]⟩,⟨some 26, some (22, false), .not (.t 25)⟩,⟨some 27, none, .pick (.t 22) (.c (.bool true)) (.t 26)⟩])
 (.cond (.t 27) (.seq (.region [⟨some 6, none, .mov (.c (.int .i64 0))⟩,⟨some 7, none, .mov (.c (.int .i64 1))⟩])
 (.ret))
 (.skip)))
 (.seq (.region [⟨some 28, none, .load (.t 3) (some 8)⟩,⟨some 29, none, .call 43 [(.t 28)]⟩,⟨some 9, none, .new (.agg [(.int .i64 0), (.int .i64 0), (.int .i64 0), (.int .i64 0), (.int .i64 0), (.int .i64 0), (.int .i64 0), (.int .i64 0), (.int .i64 0), (.int .i64 0), .nilf, (.int .i64 0), (.int .i64 0), (.int .i64 0), (.int .i64 0), (.int .i64 0), (.int .i64 0), (.int .i64 0), (.int .i64 0), (.int .i64 0), (.int .i64 0)]) 21⟩,⟨none, none, .store (.t 9) (.t 29) 21⟩])
 (.seq (.seq (.region [⟨some 30, none, .mov (.t 1)⟩,⟨some 31, none, .len (.t 30)⟩,⟨some 32, none, .mov (.c (.int .i64 0))⟩])
 (.block 0 (.loop (.seq (.region [⟨some 33, none, .bin .lss (.t 32) (.t 31)⟩])
 (.seq (.cond (.t 33) (.skip)
 (.exit 0))
 (.seq (.block 1 (.seq (.region [⟨some 34, none, .idx (.t 30) (.t 32) 6⟩,⟨some 35, none, .load (.t 34) (some 6)⟩,⟨some 11, none, .new (.agg [(.int .i64 0), (.int .i64 0), (.int .i64 0), (.int .i64 0), (.int .i64 0), (.int .i64 0)]) 6⟩,⟨none, none, .store (.t 11) (.t 35) 6⟩])
 (.region [⟨some 36, none, .load (.t 9) (some 21)⟩,⟨some 37, none, .load (.t 11) (some 6)⟩,⟨some 38, none, .call 46 [(.t 36), (.t 37)]⟩,⟨none, none, .store (.t 9) (.t 38) 21⟩])))
 (.region [⟨some 39, none, .bin .add (.t 32) (.c (.int .i64 1))⟩,⟨some 32, none, .mov (.t 39)⟩])))))))
 (.seq (.seq (.region [⟨some 40, none, .mov (.c (.int .i64 0))⟩])
 (.block 2 (.loop (.seq (.region [⟨some 41, none, .bin .lss (.t 40) (.c (.int .i64 2001))⟩])
 (.seq (.cond (.t 41) (.skip)
 (.exit 2))
 (.seq (.block 3 (.seq (.region [⟨some 42, none, .mov (.t 40)⟩,⟨some 12, none, .mov (.t 42)⟩])
 (.seq (.region [⟨some 43, none, .mov (.t 12)⟩,⟨some 44, none, .addr (.t 5) 1⟩,⟨none, none, .store (.t 44) (.t 43) 1⟩])
 (.seq (.region [⟨some 45, none, .mov (.t 1)⟩,⟨some 46, none, .load (.t 5) (some 6)⟩,⟨some 47, none, .call 55 [(.t 45), (.t 46)]⟩,⟨some 48, none, .mov (.t 47)⟩,⟨some 49, some (48, true), .load (.t 9) (some 21)⟩,⟨some 50, some (48, true), .load (.t 5) (some 6)⟩,⟨some 51, some (48, true), .call 47 [(.t 49), (.t 50)]⟩,⟨some 52, some (48, true), .not (.t 51)⟩,⟨some 53, none, .pick (.t 48) (.t 52) (.c (.bool false))⟩])
 (.cond (.t 53) (.seq (.region [⟨some 54, none, .mov (.t 12)⟩,⟨some 6, none, .mov (.t 54)⟩,⟨some 7, none, .mov (.c (.int .i64 0))⟩])
 (.ret))
 (.skip))))))
 (.region [⟨some 55, none, .bin .add (.t 40) (.c (.int .i64 1))⟩,⟨some 40, none, .mov (.t 55)⟩])))))))
 (.seq (.region [⟨some 6, none, .mov (.c (.int .i64 0))⟩,⟨some 7, none, .mov (.c (.int .i64 3))⟩])
 (.ret)))))))
def r29 : List Res := [.t 6, .t 7]
def a29 : AFn := ⟨3, c29, r29, .v⟩

/-- bijou/bijoulaw06.Far -/
def c30 : ACode := .seq (.region [⟨some 2, none, .mov (.c (.bool false))⟩])
 (.seq (.region [⟨some 3, none, .mov (.t 0)⟩,⟨some 4, none, .len (.t 3)⟩,⟨some 5, none, .bin .gtr (.t 4) (.c (.int .i64 40))⟩,⟨some 2, none, .mov (.t 5)⟩])
 (.ret))
def r30 : List Res := [.t 2]
def a30 : AFn := ⟨1, c30, r30, .v⟩

/-- bijou/turn.Check -/
def c31 : ACode := .seq (.region [⟨some 2, none, .box (.t 0) 8⟩,⟨some 4, none, .mov (.c (.int .i64 0))⟩])
 (.seq (.block 0 (.seq (.region [⟨some 6, none, .load (.t 2) (some 8)⟩,⟨some 7, none, .call 56 [(.t 6)]⟩,⟨some 8, none, .not (.t 7)⟩,⟨some 5, none, .mov (.t 8)⟩])
 (.cond (.t 5) (.seq (.region [⟨some 4, none, .mov (.c (.int .i64 60))⟩])
 (.ret))
 (.seq (.region [⟨some 10, none, .load (.t 2) (some 8)⟩,⟨some 11, none, .mov (.t 1)⟩,⟨some 12, none, .call 57 [(.t 10), (.t 11)]⟩,⟨some 13, none, .not (.t 12)⟩,⟨some 9, none, .mov (.t 13)⟩])
 (.cond (.t 9) (.seq (.region [⟨some 4, none, .mov (.c (.int .i64 61))⟩])
 (.ret))
 (.skip))))))
 (.seq (.region [⟨some 4, none, .mov (.c (.int .i64 0))⟩])
 (.ret)))
def r31 : List Res := [.t 4]
def a31 : AFn := ⟨2, c31, r31, .v⟩

/-- bijou/bijouref06.Times -/
def c32 : ACode := .seq (.region [⟨some 2, none, .box (.t 0) 8⟩,⟨some 4, none, .mov (.c (.sl [] .tight))⟩,⟨some 5, none, .mov (.c (.int .i64 0))⟩])
 (.seq (.seq (.region [⟨some 11, none, .load (.t 2) (some 8)⟩,⟨some 12, none, .mov (.t 1)⟩,⟨some 13, none, .call 27 [(.t 11), (.t 12)]⟩,⟨some 6, none, .mov (.t 13)⟩])
 (.seq (.region [⟨some 14, none, .mov (.t 6)⟩,⟨some 15, none, .bin .neq (.t 14) (.c (.int .i64 0))⟩])
 (.cond (.t 15) (.seq (.region [⟨some 16, none, .mov (.t 6)⟩,⟨some 4, none, .mov (.c (.sl [] .tight))⟩,⟨some 5, none, .mov (.t 16)⟩])
 (.ret))
 (.skip))))
 (.seq (.region [⟨some 17, none, .load (.t 2) (some 8)⟩,⟨some 18, none, .mov (.t 1)⟩,⟨some 19, none, .load (.t 2) (some 8)⟩,⟨some 20, none, .mov (.t 1)⟩,⟨some 21, none, .call 58 [(.t 19), (.t 20), (.c (.bool false))]⟩,⟨some 22, none, .call 18 [(.t 17), (.t 18), (.t 21)]⟩,⟨some 23, none, .load (.t 2) (some 8)⟩,⟨some 24, none, .mov (.t 1)⟩,⟨some 25, none, .load (.t 2) (some 8)⟩,⟨some 26, none, .mov (.t 1)⟩,⟨some 27, none, .call 58 [(.t 25), (.t 26), (.c (.bool true))]⟩,⟨some 28, none, .call 18 [(.t 23), (.t 24), (.t 27)]⟩,⟨some 7, none, .mov (.t 22)⟩,⟨some 8, none, .mov (.t 28)⟩])
 (.seq (.region [⟨some 9, none, .mov (.c (.sl [] .tight))⟩])
 (.seq (.seq (.region [⟨some 10, none, .mov (.c (.int .i64 0))⟩])
 (.block 0 (.loop (.seq (.seq (.region [⟨some 29, none, .mov (.t 10)⟩,⟨some 30, none, .mov (.t 1)⟩,⟨some 31, none, .len (.t 30)⟩,⟨some 32, none, .bin .lss (.t 29) (.t 31)⟩])
 (.cond (.t 32) (.skip)
 (.exit 0)))
 (.seq (.block 1 (.region [⟨some 35, none, .mov (.t 9)⟩,⟨some 36, none, .mov (.t 7)⟩,⟨some 37, none, .mov (.t 10)⟩,⟨some 38, none, .idx (.t 36) (.t 37) 5⟩,⟨some 39, none, .addr (.t 38) 0⟩,⟨some 40, none, .load (.t 39) none⟩,⟨some 41, none, .mov (.t 8)⟩,⟨some 42, none, .mov (.t 10)⟩,⟨some 43, none, .idx (.t 41) (.t 42) 5⟩,⟨some 44, none, .addr (.t 43) 0⟩,⟨some 45, none, .load (.t 44) none⟩,⟨some 46, none, .build [(.int .i64 0), (.int .i64 0)] [(0, 1, (.t 40)), (1, 1, (.t 45))]⟩,⟨some 47, none, .mov (.t 7)⟩,⟨some 48, none, .mov (.t 10)⟩,⟨some 49, none, .idx (.t 47) (.t 48) 5⟩,⟨some 50, none, .addr (.t 49) 1⟩,⟨some 51, none, .load (.t 50) none⟩,⟨some 52, none, .mov (.t 8)⟩,⟨some 53, none, .mov (.t 10)⟩,⟨some 54, none, .idx (.t 52) (.t 53) 5⟩,⟨some 55, none, .addr (.t 54) 1⟩,⟨some 56, none, .load (.t 55) none⟩,⟨some 57, none, .build [(.int .i64 0), (.int .i64 0)] [(0, 1, (.t 51)), (1, 1, (.t 56))]⟩,⟨some 58, none, .mov (.t 7)⟩,⟨some 59, none, .mov (.t 10)⟩,⟨some 60, none, .idx (.t 58) (.t 59) 5⟩,⟨some 61, none, .addr (.t 60) 2⟩,⟨some 62, none, .load (.t 61) none⟩,⟨some 63, none, .mov (.t 8)⟩,⟨some 64, none, .mov (.t 10)⟩,⟨some 65, none, .idx (.t 63) (.t 64) 5⟩,⟨some 66, none, .addr (.t 65) 2⟩,⟨some 67, none, .load (.t 66) none⟩,⟨some 68, none, .build [(.int .i64 0), (.int .i64 0)] [(0, 1, (.t 62)), (1, 1, (.t 67))]⟩,⟨some 69, none, .mov (.t 7)⟩,⟨some 70, none, .mov (.t 10)⟩,⟨some 71, none, .idx (.t 69) (.t 70) 5⟩,⟨some 72, none, .addr (.t 71) 3⟩,⟨some 73, none, .load (.t 72) none⟩,⟨some 74, none, .mov (.t 8)⟩,⟨some 75, none, .mov (.t 10)⟩,⟨some 76, none, .idx (.t 74) (.t 75) 5⟩,⟨some 77, none, .addr (.t 76) 3⟩,⟨some 78, none, .load (.t 77) none⟩,⟨some 79, none, .build [(.int .i64 0), (.int .i64 0)] [(0, 1, (.t 73)), (1, 1, (.t 78))]⟩,⟨some 80, none, .mov (.t 7)⟩,⟨some 81, none, .mov (.t 10)⟩,⟨some 82, none, .idx (.t 80) (.t 81) 5⟩,⟨some 83, none, .addr (.t 82) 4⟩,⟨some 84, none, .load (.t 83) none⟩,⟨some 85, none, .mov (.t 8)⟩,⟨some 86, none, .mov (.t 10)⟩,⟨some 87, none, .idx (.t 85) (.t 86) 5⟩,⟨some 88, none, .addr (.t 87) 4⟩,⟨some 89, none, .load (.t 88) none⟩,⟨some 90, none, .build [(.int .i64 0), (.int .i64 0)] [(0, 1, (.t 84)), (1, 1, (.t 89))]⟩,⟨some 91, none, .build [(.int .i64 0), (.int .i64 0), (.int .i64 0), (.int .i64 0), (.int .i64 0), (.int .i64 0), (.int .i64 0), (.int .i64 0), (.int .i64 0), (.int .i64 0)] [(0, 2, (.t 46)), (2, 2, (.t 57)), (4, 2, (.t 68)), (6, 2, (.t 79)), (8, 2, (.t 90))]⟩,⟨some 92, none, .lit false 45 10 [(.t 91)]⟩,⟨some 93, none, .app false (.t 35) (.t 92) 45 10 80⟩,⟨some 9, none, .mov (.t 93)⟩]))
 (.region [⟨some 33, none, .mov (.t 10)⟩,⟨some 34, none, .bin .add (.t 33) (.c (.int .i64 1))⟩,⟨some 10, none, .mov (.t 34)⟩]))))))
 (.seq (.region [⟨some 94, none, .mov (.t 9)⟩,⟨some 4, none, .mov (.t 94)⟩,⟨some 5, none, .mov (.c (.int .i64 0))⟩])
 (.ret))))))
def r32 : List Res := [.t 4, .t 5]
def a32 : AFn := ⟨2, c32, r32, .v⟩

/-- bijou/bijouref06.Late -/
def c33 : ACode := .seq (.region [⟨some 2, none, .box (.t 0) 8⟩,⟨some 4, none, .mov (.c (.int .i64 0))⟩,⟨some 5, none, .mov (.c (.int .i64 0))⟩,⟨some 6, none, .mov (.c (.int .i64 0))⟩])
 (.seq (.seq (.region [⟨some 8, none, .load (.t 2) (some 8)⟩,⟨some 9, none, .mov (.t 1)⟩,⟨some 10, none, .call 27 [(.t 8), (.t 9)]⟩,⟨some 7, none, .mov (.t 10)⟩])
 (.seq (.region [⟨some 11, none, .mov (.t 7)⟩,⟨some 12, none, .bin .neq (.t 11) (.c (.int .i64 0))⟩])
 (.cond (.t 12) (.seq (.region [⟨some 13, none, .mov (.t 7)⟩,⟨some 4, none, .mov (.c (.int .i64 0))⟩,⟨some 5, none, .mov (.c (.int .i64 0))⟩,⟨some 6, none, .mov (.t 13)⟩])
 (.ret))
 (.skip))))
 (.seq (.region [⟨some 15, none, .load (.t 2) (some 8)⟩,⟨some 16, none, .mov (.t 1)⟩,⟨some 17, none, .call 59 [(.t 15), (.t 16)]⟩,⟨some 14, none, .mov (.t 17)⟩,⟨some 18, none, .ext (.t 14) 0⟩,⟨some 19, none, .ext (.t 14) 1⟩,⟨some 4, none, .mov (.t 18)⟩,⟨some 5, none, .mov (.t 19)⟩])
 (.seq (.region [⟨some 20, none, .mov (.t 4)⟩,⟨some 21, none, .mov (.t 5)⟩,⟨some 4, none, .mov (.t 20)⟩,⟨some 5, none, .mov (.t 21)⟩,⟨some 6, none, .mov (.c (.int .i64 0))⟩])
 (.ret))))
def r33 : List Res := [.t 4, .t 5, .t 6]
def a33 : AFn := ⟨2, c33, r33, .v⟩

/-- bijou/bijoulaw06.sameSlots -/
def c34 : ACode := .seq (.region [⟨some 4, none, .mov (.c (.bool false))⟩])
 (.seq (.seq (.region [⟨some 6, none, .mov (.t 0)⟩,⟨some 7, none, .len (.t 6)⟩,⟨some 8, none, .mov (.t 1)⟩,⟨some 9, none, .len (.t 8)⟩,⟨some 10, none, .bin .neq (.t 7) (.t 9)⟩])
 (.cond (.t 10) (.seq (.region [⟨some 4, none, .mov (.c (.bool false))⟩])
 (.ret))
 (.skip)))
 (.seq (.seq (.region [⟨some 5, none, .mov (.c (.int .i64 0))⟩])
 (.block 0 (.loop (.seq (.seq (.region [⟨some 11, none, .mov (.t 5)⟩,⟨some 12, none, .mov (.t 0)⟩,⟨some 13, none, .len (.t 12)⟩,⟨some 14, none, .bin .lss (.t 11) (.t 13)⟩])
 (.cond (.t 14) (.skip)
 (.exit 0)))
 (.seq (.block 1 (.seq (.region [⟨some 17, none, .mov (.t 0)⟩,⟨some 18, none, .mov (.t 5)⟩,⟨some 19, none, .idx (.t 17) (.t 18) 6⟩,⟨some 20, none, .load (.t 19) (some 6)⟩,⟨some 21, none, .mov (.t 1)⟩,⟨some 22, none, .mov (.t 5)⟩,⟨some 23, none, .idx (.t 21) (.t 22) 6⟩,⟨some 24, none, .load (.t 23) (some 6)⟩,⟨some 25, none, .eqv true true [.i, .i, .i, .i, .i, .i] (.t 20) (.t 24)⟩])
 (.cond (.t 25) (.seq (.region [⟨some 4, none, .mov (.c (.bool false))⟩])
 (.ret))
 (.skip))))
 (.region [⟨some 15, none, .mov (.t 5)⟩,⟨some 16, none, .bin .add (.t 15) (.c (.int .i64 1))⟩,⟨some 5, none, .mov (.t 16)⟩]))))))
 (.seq (.region [⟨some 4, none, .mov (.c (.bool true))⟩])
 (.ret))))
def r34 : List Res := [.t 4]
def a34 : AFn := ⟨2, c34, r34, .v⟩

/-- bijou/bijouref06.Waiting -/
def c35 : ACode := .seq (.region [⟨some 3, none, .box (.t 0) 8⟩,⟨some 6, none, .new (.agg [(.int .i64 0), (.int .i64 0)]) 2⟩,⟨some 7, none, .mov (.c (.int .i64 0))⟩])
 (.seq (.seq (.region [⟨some 9, none, .load (.t 3) (some 8)⟩,⟨some 10, none, .mov (.t 1)⟩,⟨some 11, none, .call 27 [(.t 9), (.t 10)]⟩,⟨some 8, none, .mov (.t 11)⟩])
 (.seq (.region [⟨some 12, none, .mov (.t 8)⟩,⟨some 13, none, .bin .neq (.t 12) (.c (.int .i64 0))⟩])
 (.cond (.t 13) (.seq (.region [⟨some 14, none, .build [(.int .i64 0), (.int .i64 0)] []⟩,⟨some 15, none, .mov (.t 8)⟩,⟨none, none, .store (.t 6) (.t 14) 2⟩,⟨some 7, none, .mov (.t 15)⟩])
 (.ret))
 (.skip))))
 (.seq (.seq (.region [⟨some 16, none, .mov (.t 2)⟩,⟨some 17, none, .call 40 [(.t 16), (.c (.int .i64 0)), (.c (.int .i64 9999))]⟩,⟨some 18, none, .not (.t 17)⟩])
 (.cond (.t 18) (.seq (.region [⟨some 19, none, .build [(.int .i64 0), (.int .i64 0)] []⟩,⟨none, none, .store (.t 6) (.t 19) 2⟩,⟨some 7, none, .mov (.c (.int .i64 1))⟩])
 (.ret))
 (.skip)))
 (.seq (.region [⟨some 20, none, .load (.t 3) (some 8)⟩,⟨some 21, none, .mov (.t 1)⟩,⟨some 22, none, .load (.t 3) (some 8)⟩,⟨some 23, none, .mov (.t 1)⟩,⟨some 24, none, .call 58 [(.t 22), (.t 23), (.c (.bool false))]⟩,⟨some 25, none, .mov (.t 2)⟩,⟨some 26, none, .call 23 [(.t 20), (.t 21), (.t 24), (.t 25)]⟩,⟨some 27, none, .load (.t 3) (some 8)⟩,⟨some 28, none, .mov (.t 1)⟩,⟨some 29, none, .load (.t 3) (some 8)⟩,⟨some 30, none, .mov (.t 1)⟩,⟨some 31, none, .call 58 [(.t 29), (.t 30), (.c (.bool true))]⟩,⟨some 32, none, .mov (.t 2)⟩,⟨some 33, none, .call 23 [(.t 27), (.t 28), (.t 31), (.t 32)]⟩,⟨some 34, none, .build [(.int .i64 0), (.int .i64 0)] [(0, 1, (.t 26)), (1, 1, (.t 33))]⟩,⟨none, none, .store (.t 6) (.t 34) 2⟩,⟨some 7, none, .mov (.c (.int .i64 0))⟩])
 (.ret))))
def r35 : List Res := [.cell 6 (some 2), .t 7]
def a35 : AFn := ⟨3, c35, r35, .v⟩

/-- bijou/bijouref06.Crowded -/
def c36 : ACode := .seq (.region [⟨some 2, none, .box (.t 0) 8⟩,⟨some 4, none, .mov (.c (.int .i64 0))⟩,⟨some 5, none, .mov (.c (.int .i64 0))⟩])
 (.seq (.seq (.region [⟨some 10, none, .load (.t 2) (some 8)⟩,⟨some 11, none, .mov (.t 1)⟩,⟨some 12, none, .call 27 [(.t 10), (.t 11)]⟩,⟨some 6, none, .mov (.t 12)⟩])
 (.seq (.region [⟨some 13, none, .mov (.t 6)⟩,⟨some 14, none, .bin .neq (.t 13) (.c (.int .i64 0))⟩])
 (.cond (.t 14) (.seq (.region [⟨some 15, none, .mov (.t 6)⟩,⟨some 4, none, .mov (.c (.int .i64 0))⟩,⟨some 5, none, .mov (.t 15)⟩])
 (.ret))
 (.skip))))
 (.seq (.region [⟨some 16, none, .load (.t 2) (some 8)⟩,⟨some 17, none, .mov (.t 1)⟩,⟨some 18, none, .call 58 [(.t 16), (.t 17), (.c (.bool true))]⟩,⟨some 7, none, .new (.agg [(.sl [] .tight), (.sl [] .tight), (.int .i64 0)]) 3⟩,⟨none, none, .store (.t 7) (.t 18) 3⟩])
 (.seq (.seq (.region [⟨some 8, none, .mov (.c (.int .i64 0))⟩])
 (.block 0 (.loop (.seq (.seq (.region [⟨some 19, none, .mov (.t 8)⟩,⟨some 20, none, .mov (.t 1)⟩,⟨some 21, none, .len (.t 20)⟩,⟨some 22, none, .bin .lss (.t 19) (.t 21)⟩])
 (.cond (.t 22) (.skip)
 (.exit 0)))
 (.seq (.block 1 (.seq (.region [⟨some 25, none, .mov (.t 1)⟩,⟨some 26, none, .mov (.t 8)⟩,⟨some 27, none, .idx (.t 25) (.t 26) 6⟩,⟨some 28, none, .addr (.t 27) 1⟩,⟨some 29, none, .load (.t 28) none⟩,⟨some 30, none, .addr (.t 2) 2⟩,⟨some 31, none, .load (.t 30) none⟩,⟨some 32, none, .bin .sub (.t 29) (.t 31)⟩,⟨some 33, none, .mnx true (.c (.int .i64 0)) (.t 32)⟩,⟨some 9, none, .mov (.t 33)⟩])
 (.seq (.region [⟨some 34, none, .load (.t 2) (some 8)⟩,⟨some 35, none, .mov (.t 1)⟩,⟨some 36, none, .load (.t 7) (some 3)⟩,⟨some 37, none, .mov (.t 9)⟩,⟨some 38, none, .call 23 [(.t 34), (.t 35), (.t 36), (.t 37)]⟩,⟨some 39, none, .addr (.t 2) 3⟩,⟨some 40, none, .load (.t 39) none⟩,⟨some 41, none, .bin .gtr (.t 38) (.t 40)⟩])
 (.cond (.t 41) (.seq (.region [⟨some 42, none, .mov (.t 9)⟩,⟨some 4, none, .mov (.t 42)⟩,⟨some 5, none, .mov (.c (.int .i64 0))⟩])
 (.ret))
 (.skip)))))
 (.region [⟨some 23, none, .mov (.t 8)⟩,⟨some 24, none, .bin .add (.t 23) (.c (.int .i64 1))⟩,⟨some 8, none, .mov (.t 24)⟩]))))))
 (.seq (.region [⟨some 4, none, .mov (.c (.int .i64 (-1)))⟩,⟨some 5, none, .mov (.c (.int .i64 0))⟩])
 (.ret)))))
def r36 : List Res := [.t 4, .t 5]
def a36 : AFn := ⟨2, c36, r36, .v⟩

/-- bijou/bijouref06.Fewest -/
def c37 : ACode := .seq (.region [⟨some 2, none, .box (.t 0) 8⟩,⟨some 4, none, .mov (.c (.int .i64 0))⟩,⟨some 5, none, .mov (.c (.int .i64 0))⟩])
 (.seq (.seq (.region [⟨some 8, none, .load (.t 2) (some 8)⟩,⟨some 9, none, .mov (.t 1)⟩,⟨some 10, none, .call 27 [(.t 8), (.t 9)]⟩,⟨some 6, none, .mov (.t 10)⟩])
 (.seq (.region [⟨some 11, none, .mov (.t 6)⟩,⟨some 12, none, .bin .neq (.t 11) (.c (.int .i64 0))⟩])
 (.cond (.t 12) (.seq (.region [⟨some 13, none, .mov (.t 6)⟩,⟨some 4, none, .mov (.c (.int .i64 0))⟩,⟨some 5, none, .mov (.t 13)⟩])
 (.ret))
 (.skip))))
 (.seq (.seq (.region [⟨some 7, none, .mov (.c (.int .i64 1))⟩])
 (.block 0 (.loop (.seq (.seq (.region [⟨some 14, none, .mov (.t 7)⟩,⟨some 15, none, .bin .leq (.t 14) (.c (.int .i64 4))⟩])
 (.cond (.t 15) (.skip)
 (.exit 0)))
 (.seq (.block 1 (.seq (.region [⟨some 18, none, .load (.t 2) (some 8)⟩,⟨some 19, none, .mov (.t 1)⟩,⟨some 20, none, .mov (.t 7)⟩,⟨some 21, none, .call 60 [(.t 18), (.t 19), (.c (.sl [] .tight)), (.t 20)]⟩])
 (.cond (.t 21) (.seq (.region [⟨some 22, none, .mov (.t 7)⟩,⟨some 4, none, .mov (.t 22)⟩,⟨some 5, none, .mov (.c (.int .i64 0))⟩])
 (.ret))
 (.skip))))
 (.region [⟨some 16, none, .mov (.t 7)⟩,⟨some 17, none, .bin .add (.t 16) (.c (.int .i64 1))⟩,⟨some 7, none, .mov (.t 17)⟩]))))))
 (.seq (.region [⟨some 4, none, .mov (.c (.int .i64 0))⟩,⟨some 5, none, .mov (.c (.int .i64 3))⟩])
 (.ret))))
def r37 : List Res := [.t 4, .t 5]
def a37 : AFn := ⟨2, c37, r37, .v⟩

/-- bijou/bijouref06.CheckAssign -/
def c38 : ACode := .seq (.region [⟨some 2, none, .box (.t 0) 8⟩,⟨some 4, none, .mov (.c (.int .i64 0))⟩])
 (.seq (.seq (.region [⟨some 6, none, .load (.t 2) (some 8)⟩,⟨some 7, none, .mov (.t 1)⟩,⟨some 8, none, .call 27 [(.t 6), (.t 7)]⟩,⟨some 5, none, .mov (.t 8)⟩])
 (.seq (.region [⟨some 9, none, .mov (.t 5)⟩,⟨some 10, none, .bin .neq (.t 9) (.c (.int .i64 0))⟩])
 (.cond (.t 10) (.seq (.region [⟨some 11, none, .mov (.t 5)⟩,⟨some 4, none, .mov (.t 11)⟩])
 (.ret))
 (.skip))))
 (.seq (.seq (.region [⟨some 12, none, .load (.t 2) (some 8)⟩,⟨some 13, none, .mov (.t 1)⟩,⟨some 14, none, .addr (.t 2) 0⟩,⟨some 15, none, .load (.t 14) none⟩,⟨some 16, none, .call 60 [(.t 12), (.t 13), (.c (.sl [] .tight)), (.t 15)]⟩,⟨some 17, none, .not (.t 16)⟩])
 (.cond (.t 17) (.seq (.region [⟨some 4, none, .mov (.c (.int .i64 3))⟩])
 (.ret))
 (.skip)))
 (.seq (.region [⟨some 4, none, .mov (.c (.int .i64 0))⟩])
 (.ret))))
def r38 : List Res := [.t 4]
def a38 : AFn := ⟨2, c38, r38, .v⟩

/-- bijou/bijouref06.Next -/
def c39 : ACode := .seq (.region [⟨some 3, none, .box (.t 0) 8⟩,⟨some 5, none, .box (.t 2) 6⟩,⟨some 6, none, .mov (.c (.int .i64 0))⟩,⟨some 7, none, .mov (.c (.int .i64 0))⟩])
 (.seq (.seq (.region [⟨some 12, none, .load (.t 3) (some 8)⟩,⟨some 13, none, .mov (.t 1)⟩,⟨some 14, none, .call 27 [(.t 12), (.t 13)]⟩,⟨some 8, none, .mov (.t 14)⟩])
 (.seq (.region [⟨some 15, none, .mov (.t 8)⟩,⟨some 16, none, .bin .neq (.t 15) (.c (.int .i64 0))⟩])
 (.cond (.t 16) (.seq (.region [⟨some 17, none, .mov (.t 8)⟩,⟨some 6, none, .mov (.c (.int .i64 0))⟩,⟨some 7, none, .mov (.t 17)⟩])
 (.ret))
 (.skip))))
 (.seq (.seq (.region [⟨some 18, none, .load (.t 3) (some 8)⟩,⟨some 19, none, .load (.t 5) (some 6)⟩,⟨some 20, none, .call 28 [(.t 18), (.t 19)]⟩,⟨some 21, none, .not (.t 20)⟩,⟨some 22, none, .mov (.t 21)⟩,⟨some 23, some (22, false), .mov (.t 1)⟩,⟨some 24, some (22, false), .len (.t 23)⟩,⟨some 25, some (22, false), .bin .geq (.t 24) (.c (.int .i64 12))⟩,⟨some 26, none, .pick (.t 22) (.c (.bool true)) (.t 25)⟩])
 (.cond (.t 26) (.seq (.region [⟨some 6, none, .mov (.c (.int .i64 0))⟩,⟨some 7, none, .mov (.c (.int .i64 1))⟩])
 (.ret))
 (.skip)))
 (.seq (.seq (.region [⟨some 9, none, .mov (.c (.int .i64 0))⟩])
 (.block 0 (.loop (.seq (.seq (.region [⟨some 27, none, .mov (.t 9)⟩,⟨some 28, none, .bin .leq (.t 27) (.c (.int .i64 2000))⟩])
 (.cond (.t 28) (.skip)
 (.exit 0)))
 (.seq (.block 1 (.seq (.region [⟨some 31, none, .mov (.t 9)⟩,⟨some 32, none, .addr (.t 5) 1⟩,⟨none, none, .store (.t 32) (.t 31) 1⟩])
 (.seq (.regionD [⟨some 33, none, .lit false 47 6 []⟩,⟨some 34, none, .mov (.t 1)⟩,⟨some 36, none, .load (.t 5) (some 6)⟩,⟨some 37, none, .lit false 47 6 [(.t 36)]⟩,⟨some 35, none, .app false (.t 33) (.t 34) 47 6 48⟩,⟨some 38, none, .app false (.t 35) (.t 37) 47 6 48⟩,⟨some 10, none, .mov (.t 38)⟩] [(5, 33)])
 (.seq (.seq (.region [⟨some 39, none, .load (.t 3) (some 8)⟩,⟨some 40, none, .mov (.t 10)⟩,⟨some 41, none, .call 27 [(.t 39), (.t 40)]⟩,⟨some 42, none, .bin .neq (.t 41) (.c (.int .i64 0))⟩])
 (.cond (.t 42) (.exit 1)
 (.skip)))
 (.seq (.region [⟨some 43, none, .load (.t 3) (some 8)⟩,⟨some 44, none, .mov (.t 10)⟩,⟨some 45, none, .load (.t 3) (some 8)⟩,⟨some 46, none, .mov (.t 10)⟩,⟨some 47, none, .call 58 [(.t 45), (.t 46), (.c (.bool true))]⟩,⟨some 48, none, .call 18 [(.t 43), (.t 44), (.t 47)]⟩,⟨some 11, none, .mov (.t 48)⟩])
 (.seq (.region [⟨some 49, none, .mov (.t 11)⟩,⟨some 50, none, .mov (.t 1)⟩,⟨some 51, none, .len (.t 50)⟩,⟨some 52, none, .idx (.t 49) (.t 51) 5⟩,⟨some 53, none, .addr (.t 52) 2⟩,⟨some 54, none, .load (.t 53) none⟩,⟨some 55, none, .mov (.t 9)⟩,⟨some 56, none, .bin .eql (.t 54) (.t 55)⟩])
 (.cond (.t 56) (.seq (.region [⟨some 57, none, .mov (.t 9)⟩,⟨some 6, none, .mov (.t 57)⟩,⟨some 7, none, .mov (.c (.int .i64 0))⟩])
 (.ret))
 (.skip))))))))
 (.region [⟨some 29, none, .mov (.t 9)⟩,⟨some 30, none, .bin .add (.t 29) (.c (.int .i64 1))⟩,⟨some 9, none, .mov (.t 30)⟩]))))))
 (.seq (.region [⟨some 6, none, .mov (.c (.int .i64 0))⟩,⟨some 7, none, .mov (.c (.int .i64 3))⟩])
 (.ret)))))
def r39 : List Res := [.t 6, .t 7]
def a39 : AFn := ⟨3, c39, r39, .v⟩

/-- bijou/bijouref06.within -/
def c40 : ACode := .seq (.region [⟨some 6, none, .mov (.c (.bool false))⟩])
 (.seq (.region [⟨some 7, none, .mov (.t 0)⟩,⟨some 8, none, .mov (.t 1)⟩,⟨some 9, none, .bin .geq (.t 7) (.t 8)⟩,⟨some 10, none, .mov (.t 9)⟩,⟨some 11, some (10, true), .mov (.t 0)⟩,⟨some 12, some (10, true), .mov (.t 2)⟩,⟨some 13, some (10, true), .bin .leq (.t 11) (.t 12)⟩,⟨some 14, none, .pick (.t 10) (.t 13) (.c (.bool false))⟩,⟨some 6, none, .mov (.t 14)⟩])
 (.ret))
def r40 : List Res := [.t 6]
def a40 : AFn := ⟨3, c40, r40, .v⟩

/-- bijou/bijoulaw06.Example -/
def c41 : ACode := .seq (.region [⟨some 0, none, .new (.agg [(.int .i64 0), (.int .i64 0), (.int .i64 0), (.int .i64 0), (.int .i64 0), (.int .i64 0), (.int .i64 0), (.int .i64 0)]) 8⟩,⟨some 1, none, .mov (.c (.sl [] .tight))⟩])
 (.seq (.region [⟨some 2, none, .build [(.int .i64 0), (.int .i64 0)] [(0, 1, (.c (.int .i64 10))), (1, 1, (.c (.int .i64 20)))]⟩,⟨some 3, none, .build [(.int .i64 0), (.int .i64 0)] [(0, 1, (.c (.int .i64 10))), (1, 1, (.c (.int .i64 15)))]⟩,⟨some 4, none, .build [(.int .i64 0), (.int .i64 0), (.int .i64 0), (.int .i64 0), (.int .i64 0), (.int .i64 0), (.int .i64 0), (.int .i64 0)] [(0, 1, (.c (.int .i64 1))), (1, 1, (.c (.int .i64 2))), (2, 1, (.c (.int .i64 15))), (3, 1, (.c (.int .i64 40))), (4, 2, (.t 2)), (6, 2, (.t 3))]⟩,⟨some 5, none, .build [(.int .i64 0), (.int .i64 0)] [(0, 1, (.c (.int .i64 90))), (1, 1, (.c (.int .i64 100)))]⟩,⟨some 6, none, .build [(.int .i64 0), (.int .i64 0), (.int .i64 0), (.int .i64 0), (.int .i64 0), (.int .i64 0)] [(1, 1, (.c (.int .i64 100))), (2, 2, (.t 5)), (4, 1, (.c (.int .i64 50)))]⟩,⟨some 7, none, .build [(.int .i64 0), (.int .i64 0)] [(0, 1, (.c (.int .i64 60))), (1, 1, (.c (.int .i64 60)))]⟩,⟨some 8, none, .build [(.int .i64 0), (.int .i64 0), (.int .i64 0), (.int .i64 0), (.int .i64 0), (.int .i64 0)] [(0, 1, (.c (.int .i64 1))), (1, 1, (.c (.int .i64 110))), (2, 2, (.t 7)), (4, 1, (.c (.int .i64 30)))]⟩,⟨some 9, none, .build [(.int .i64 0), (.int .i64 0)] [(0, 1, (.c (.int .i64 90))), (1, 1, (.c (.int .i64 95)))]⟩,⟨some 10, none, .build [(.int .i64 0), (.int .i64 0), (.int .i64 0), (.int .i64 0), (.int .i64 0), (.int .i64 0)] [(1, 1, (.c (.int .i64 230))), (2, 2, (.t 9)), (4, 1, (.c (.int .i64 40)))]⟩,⟨some 11, none, .lit false 47 6 [(.t 6), (.t 8), (.t 10)]⟩,⟨none, none, .store (.t 0) (.t 4) 8⟩,⟨some 1, none, .mov (.t 11)⟩])
 (.ret))
def r41 : List Res := [.cell 0 (some 8), .t 1]
def a41 : AFn := ⟨0, c41, r41, .v⟩

/-- bijou/turn.earliest -/
def c42 : ACode := .seq (.region [⟨some 1, none, .box (.t 0) 8⟩,⟨some 2, none, .new (.agg [(.int .i64 0), (.int .i64 0), (.int .i64 0), (.int .i64 0), (.int .i64 0), (.int .i64 0), (.int .i64 0), (.int .i64 0), (.int .i64 0), (.int .i64 0), .nilf, (.int .i64 0), (.int .i64 0), (.int .i64 0), (.int .i64 0), (.int .i64 0), (.int .i64 0), (.int .i64 0), (.int .i64 0), (.int .i64 0), (.int .i64 0)]) 21⟩])
 (.seq (.region [⟨some 3, none, .load (.t 1) (some 8)⟩,⟨some 4, none, .load (.t 1) (some 8)⟩,⟨some 5, none, .call 61 [(.t 4)]⟩,⟨some 6, none, .build [(.int .i64 0), (.int .i64 0), (.int .i64 0), (.int .i64 0), (.int .i64 0), (.int .i64 0), (.int .i64 0), (.int .i64 0), (.int .i64 0), (.int .i64 0), .nilf, (.int .i64 0), (.int .i64 0), (.int .i64 0), (.int .i64 0), (.int .i64 0), (.int .i64 0), (.int .i64 0), (.int .i64 0), (.int .i64 0), (.int .i64 0)] [(0, 8, (.t 3)), (8, 3, (.t 5))]⟩,⟨none, none, .store (.t 2) (.t 6) 21⟩])
 (.ret))
def r42 : List Res := [.cell 2 (some 21)]
def a42 : AFn := ⟨1, c42, r42, .v⟩

/-- bijou/turn.latest -/
def c43 : ACode := .seq (.region [⟨some 1, none, .box (.t 0) 8⟩,⟨some 2, none, .new (.agg [(.int .i64 0), (.int .i64 0), (.int .i64 0), (.int .i64 0), (.int .i64 0), (.int .i64 0), (.int .i64 0), (.int .i64 0), (.int .i64 0), (.int .i64 0), .nilf, (.int .i64 0), (.int .i64 0), (.int .i64 0), (.int .i64 0), (.int .i64 0), (.int .i64 0), (.int .i64 0), (.int .i64 0), (.int .i64 0), (.int .i64 0)]) 21⟩])
 (.seq (.region [⟨some 3, none, .load (.t 1) (some 8)⟩,⟨some 4, none, .load (.t 1) (some 8)⟩,⟨some 5, none, .call 62 [(.t 4)]⟩,⟨some 6, none, .build [(.int .i64 0), (.int .i64 0), (.int .i64 0), (.int .i64 0), (.int .i64 0), (.int .i64 0), (.int .i64 0), (.int .i64 0), (.int .i64 0), (.int .i64 0), .nilf, (.int .i64 0), (.int .i64 0), (.int .i64 0), (.int .i64 0), (.int .i64 0), (.int .i64 0), (.int .i64 0), (.int .i64 0), (.int .i64 0), (.int .i64 0)] [(0, 8, (.t 3)), (8, 3, (.t 5))]⟩,⟨none, none, .store (.t 2) (.t 6) 21⟩])
 (.ret))
def r43 : List Res := [.cell 2 (some 21)]
def a43 : AFn := ⟨1, c43, r43, .v⟩

/-- bijou/turn.between -/
def c44 : ACode := .seq (.region [⟨some 2, none, .box (.t 0) 6⟩,⟨some 3, none, .box (.t 1) 6⟩,⟨some 4, none, .new (.agg [(.int .i64 0), (.int .i64 0), (.int .i64 0), (.int .i64 0), (.int .i64 0), (.int .i64 0), (.int .i64 0), (.int .i64 0), (.int .i64 0), (.int .i64 0)]) 10⟩])
 (.seq (.region [⟨some 5, none, .addr (.t 2) 1⟩,⟨some 6, none, .load (.t 5) none⟩,⟨some 7, none, .addr (.t 3) 1⟩,⟨some 8, none, .load (.t 7) none⟩,⟨some 9, none, .build [(.int .i64 0), (.int .i64 0)] [(0, 1, (.t 6)), (1, 1, (.t 8))]⟩,⟨some 10, none, .addr (.t 2) 2⟩,⟨some 11, none, .load (.t 10) none⟩,⟨some 12, none, .addr (.t 3) 2⟩,⟨some 13, none, .load (.t 12) none⟩,⟨some 14, none, .build [(.int .i64 0), (.int .i64 0)] [(0, 1, (.t 11)), (1, 1, (.t 13))]⟩,⟨some 15, none, .addr (.t 2) 3⟩,⟨some 16, none, .load (.t 15) none⟩,⟨some 17, none, .addr (.t 3) 3⟩,⟨some 18, none, .load (.t 17) none⟩,⟨some 19, none, .build [(.int .i64 0), (.int .i64 0)] [(0, 1, (.t 16)), (1, 1, (.t 18))]⟩,⟨some 20, none, .addr (.t 2) 4⟩,⟨some 21, none, .load (.t 20) none⟩,⟨some 22, none, .addr (.t 3) 4⟩,⟨some 23, none, .load (.t 22) none⟩,⟨some 24, none, .build [(.int .i64 0), (.int .i64 0)] [(0, 1, (.t 21)), (1, 1, (.t 23))]⟩,⟨some 25, none, .addr (.t 2) 5⟩,⟨some 26, none, .load (.t 25) none⟩,⟨some 27, none, .addr (.t 3) 5⟩,⟨some 28, none, .load (.t 27) none⟩,⟨some 29, none, .build [(.int .i64 0), (.int .i64 0)] [(0, 1, (.t 26)), (1, 1, (.t 28))]⟩,⟨some 30, none, .build [(.int .i64 0), (.int .i64 0), (.int .i64 0), (.int .i64 0), (.int .i64 0), (.int .i64 0), (.int .i64 0), (.int .i64 0), (.int .i64 0), (.int .i64 0)] [(0, 2, (.t 9)), (2, 2, (.t 14)), (4, 2, (.t 19)), (6, 2, (.t 24)), (8, 2, (.t 29))]⟩,⟨none, none, .store (.t 4) (.t 30) 10⟩])
 (.ret))
def r44 : List Res := [.cell 4 (some 10)]
def a44 : AFn := ⟨2, c44, r44, .v⟩

/-- (bijou/turn.evening).times -/
def c45 : ACode := .seq (.region [⟨some 2, none, .box (.t 0) 21⟩,⟨some 3, none, .box (.t 1) 6⟩,⟨some 4, none, .new (.agg [(.int .i64 0), (.int .i64 0), (.int .i64 0), (.int .i64 0), (.int .i64 0), (.int .i64 0)]) 6⟩])
 (.seq (.region [⟨some 5, none, .new (.agg [(.int .i64 0), (.int .i64 0), (.int .i64 0), (.int .i64 0), (.int .i64 0), (.int .i64 0)]) 6⟩])
 (.seq (.region [⟨some 6, none, .addr (.t 3) 1⟩,⟨some 7, none, .load (.t 6) none⟩,⟨some 8, none, .addr (.t 2) 0⟩,⟨some 9, none, .addr (.t 8) 2⟩,⟨some 10, none, .load (.t 9) none⟩,⟨some 11, none, .bin .sub (.t 7) (.t 10)⟩,⟨some 12, none, .mnx true (.c (.int .i64 0)) (.t 11)⟩,⟨some 13, none, .addr (.t 5) 0⟩,⟨none, none, .store (.t 13) (.t 12) 1⟩])
 (.seq (.region [⟨some 14, none, .addr (.t 5) 0⟩,⟨some 15, none, .load (.t 14) none⟩,⟨some 16, none, .addr (.t 3) 0⟩,⟨some 17, none, .load (.t 16) none⟩,⟨some 18, none, .addr (.t 2) 11⟩,⟨some 19, none, .aidx (.t 18) (.t 17) 6 1⟩,⟨some 20, none, .load (.t 19) none⟩,⟨some 21, none, .mnx true (.t 15) (.t 20)⟩,⟨some 22, none, .addr (.t 5) 1⟩,⟨none, none, .store (.t 22) (.t 21) 1⟩])
 (.seq (.region [⟨some 23, none, .addr (.t 5) 1⟩,⟨some 24, none, .load (.t 23) none⟩,⟨some 25, none, .addr (.t 2) 8⟩,⟨some 26, none, .load (.t 25) (some 3)⟩,⟨some 27, none, .addr (.t 3) 4⟩,⟨some 28, none, .load (.t 27) none⟩,⟨some 29, none, .call 63 [(.t 26), (.t 28)]⟩,⟨some 30, none, .bin .add (.t 24) (.t 29)⟩,⟨some 31, none, .addr (.t 5) 2⟩,⟨none, none, .store (.t 31) (.t 30) 1⟩])
 (.seq (.region [⟨some 32, none, .addr (.t 3) 1⟩,⟨some 33, none, .load (.t 32) none⟩,⟨some 34, none, .addr (.t 5) 2⟩,⟨some 35, none, .load (.t 34) none⟩,⟨some 36, none, .mnx true (.t 33) (.t 35)⟩,⟨some 37, none, .addr (.t 5) 3⟩,⟨none, none, .store (.t 37) (.t 36) 1⟩])
 (.seq (.region [⟨some 38, none, .addr (.t 5) 3⟩,⟨some 39, none, .load (.t 38) none⟩,⟨some 40, none, .addr (.t 2) 8⟩,⟨some 41, none, .addr (.t 40) 2⟩,⟨some 42, none, .load (.t 41) none⟩,⟨some 43, none, .load (.t 3) (some 6)⟩,⟨some 44, none, .callz (.t 42) [(.t 43)]⟩,⟨some 45, none, .bin .add (.t 39) (.t 44)⟩,⟨some 46, none, .addr (.t 2) 8⟩,⟨some 47, none, .load (.t 46) (some 3)⟩,⟨some 48, none, .addr (.t 3) 4⟩,⟨some 49, none, .load (.t 48) none⟩,⟨some 50, none, .call 63 [(.t 47), (.t 49)]⟩,⟨some 51, none, .bin .add (.t 45) (.t 50)⟩,⟨some 52, none, .addr (.t 5) 4⟩,⟨none, none, .store (.t 52) (.t 51) 1⟩])
 (.seq (.region [⟨some 53, none, .addr (.t 5) 4⟩,⟨some 54, none, .load (.t 53) none⟩,⟨some 55, none, .addr (.t 3) 5⟩,⟨some 56, none, .load (.t 55) none⟩,⟨some 57, none, .addr (.t 2) 17⟩,⟨some 58, none, .aidx (.t 57) (.t 56) 4 1⟩,⟨some 59, none, .load (.t 58) none⟩,⟨some 60, none, .mnx true (.t 54) (.t 59)⟩,⟨some 61, none, .addr (.t 2) 8⟩,⟨some 62, none, .addr (.t 61) 1⟩,⟨some 63, none, .load (.t 62) none⟩,⟨some 64, none, .bin .add (.t 60) (.t 63)⟩,⟨some 65, none, .addr (.t 5) 5⟩,⟨none, none, .store (.t 65) (.t 64) 1⟩])
 (.seq (.region [⟨some 66, none, .load (.t 5) (some 6)⟩,⟨none, none, .store (.t 4) (.t 66) 6⟩])
 (.ret)))))))))
def r45 : List Res := [.cell 4 (some 6)]
def a45 : AFn := ⟨2, c45, r45, .v⟩

/-- (bijou/turn.evening).after -/
def c46 : ACode := .seq (.region [⟨some 2, none, .box (.t 0) 21⟩,⟨some 3, none, .box (.t 1) 6⟩,⟨some 4, none, .new (.agg [(.int .i64 0), (.int .i64 0), (.int .i64 0), (.int .i64 0), (.int .i64 0), (.int .i64 0), (.int .i64 0), (.int .i64 0), (.int .i64 0), (.int .i64 0), .nilf, (.int .i64 0), (.int .i64 0), (.int .i64 0), (.int .i64 0), (.int .i64 0), (.int .i64 0), (.int .i64 0), (.int .i64 0), (.int .i64 0), (.int .i64 0)]) 21⟩])
 (.seq (.region [⟨some 6, none, .load (.t 2) (some 21)⟩,⟨some 7, none, .load (.t 3) (some 6)⟩,⟨some 8, none, .call 45 [(.t 6), (.t 7)]⟩,⟨some 9, none, .fld (.t 8) 5 none⟩,⟨some 5, none, .mov (.t 9)⟩])
 (.seq (.region [⟨some 10, none, .addr (.t 3) 0⟩,⟨some 11, none, .load (.t 10) none⟩,⟨some 12, none, .mov (.t 5)⟩,⟨some 13, none, .addr (.t 2) 11⟩,⟨some 14, none, .aidx (.t 13) (.t 11) 6 1⟩,⟨none, none, .store (.t 14) (.t 12) 1⟩])
 (.seq (.region [⟨some 15, none, .addr (.t 3) 5⟩,⟨some 16, none, .load (.t 15) none⟩,⟨some 17, none, .mov (.t 5)⟩,⟨some 18, none, .addr (.t 2) 0⟩,⟨some 19, none, .addr (.t 18) 1⟩,⟨some 20, none, .load (.t 19) none⟩,⟨some 21, none, .bin .add (.t 17) (.t 20)⟩,⟨some 22, none, .addr (.t 2) 17⟩,⟨some 23, none, .aidx (.t 22) (.t 16) 4 1⟩,⟨none, none, .store (.t 23) (.t 21) 1⟩])
 (.seq (.region [⟨some 24, none, .load (.t 2) (some 21)⟩,⟨none, none, .store (.t 4) (.t 24) 21⟩])
 (.ret)))))
def r46 : List Res := [.cell 4 (some 21)]
def a46 : AFn := ⟨2, c46, r46, .v⟩

/-- (bijou/turn.evening).delays -/
def c47 : ACode := .seq (.region [⟨some 2, none, .box (.t 0) 21⟩,⟨some 3, none, .box (.t 1) 6⟩,⟨some 4, none, .mov (.c (.bool false))⟩])
 (.seq (.region [⟨some 5, none, .load (.t 2) (some 21)⟩,⟨some 6, none, .load (.t 3) (some 6)⟩,⟨some 7, none, .call 45 [(.t 5), (.t 6)]⟩,⟨some 8, none, .fld (.t 7) 3 none⟩,⟨some 9, none, .addr (.t 3) 1⟩,⟨some 10, none, .load (.t 9) none⟩,⟨some 11, none, .bin .gtr (.t 8) (.t 10)⟩,⟨some 4, none, .mov (.t 11)⟩])
 (.ret))
def r47 : List Res := [.t 4]
def a47 : AFn := ⟨2, c47, r47, .v⟩

/-- bijou/bijouref06.passes -/
def c48 : ACode := .seq (.region [⟨some 4, none, .mov (.c (.int .i64 0))⟩])
 (.seq (.region [⟨some 5, none, .mov (.t 0)⟩,⟨some 6, none, .mov (.t 1)⟩,⟨some 7, none, .bin .add (.t 5) (.t 6)⟩,⟨some 8, none, .bin .sub (.t 7) (.c (.int .i64 1))⟩,⟨some 9, none, .mov (.t 1)⟩,⟨some 10, none, .bin .quo (.t 8) (.t 9)⟩,⟨some 4, none, .mov (.t 10)⟩])
 (.ret))
def r48 : List Res := [.t 4]
def a48 : AFn := ⟨2, c48, r48, .v⟩

/-- bijou/turn.isWithin -/
def c49 : ACode := .seq (.region [⟨some 6, none, .mov (.c (.bool false))⟩])
 (.seq (.region [⟨some 7, none, .mov (.t 1)⟩,⟨some 8, none, .mov (.t 0)⟩,⟨some 9, none, .bin .leq (.t 7) (.t 8)⟩,⟨some 10, none, .mov (.t 9)⟩,⟨some 11, some (10, true), .mov (.t 0)⟩,⟨some 12, some (10, true), .mov (.t 2)⟩,⟨some 13, some (10, true), .bin .leq (.t 11) (.t 12)⟩,⟨some 14, none, .pick (.t 10) (.t 13) (.c (.bool false))⟩,⟨some 6, none, .mov (.t 14)⟩])
 (.ret))
def r49 : List Res := [.t 6]
def a49 : AFn := ⟨3, c49, r49, .v⟩

/-- (bijou/turn.evening).waiting -/
def c50 : ACode := .seq (.region [⟨some 3, none, .box (.t 0) 21⟩,⟨some 6, none, .mov (.c (.int .i64 0))⟩])
 (.seq (.region [⟨some 7, none, .mov (.c (.int .i64 0))⟩])
 (.seq (.seq (.region [⟨some 12, none, .mov (.t 1)⟩,⟨some 13, none, .len (.t 12)⟩,⟨some 14, none, .mov (.c (.int .i64 0))⟩])
 (.block 0 (.loop (.seq (.region [⟨some 15, none, .bin .lss (.t 14) (.t 13)⟩])
 (.seq (.cond (.t 15) (.skip)
 (.exit 0))
 (.seq (.block 1 (.seq (.region [⟨some 16, none, .idx (.t 12) (.t 14) 6⟩,⟨some 17, none, .load (.t 16) (some 6)⟩,⟨some 9, none, .new (.agg [(.int .i64 0), (.int .i64 0), (.int .i64 0), (.int .i64 0), (.int .i64 0), (.int .i64 0)]) 6⟩,⟨none, none, .store (.t 9) (.t 17) 6⟩])
 (.seq (.seq (.region [⟨some 18, none, .load (.t 3) (some 21)⟩,⟨some 19, none, .load (.t 9) (some 6)⟩,⟨some 20, none, .call 45 [(.t 18), (.t 19)]⟩,⟨some 10, none, .new (.agg [(.int .i64 0), (.int .i64 0), (.int .i64 0), (.int .i64 0), (.int .i64 0), (.int .i64 0)]) 6⟩,⟨none, none, .store (.t 10) (.t 20) 6⟩])
 (.seq (.region [⟨some 21, none, .addr (.t 10) 0⟩,⟨some 22, none, .load (.t 21) none⟩,⟨some 23, none, .mov (.t 2)⟩,⟨some 24, none, .bin .leq (.t 22) (.t 23)⟩])
 (.cond (.t 24) (.seq (.region [⟨some 25, none, .mov (.t 2)⟩,⟨some 26, none, .addr (.t 10) 1⟩,⟨some 27, none, .load (.t 26) none⟩,⟨some 28, none, .bin .sub (.t 25) (.t 27)⟩,⟨some 29, none, .bin .add (.t 28) (.c (.int .i64 1))⟩,⟨some 30, none, .mnx true (.c (.int .i64 0)) (.t 29)⟩,⟨some 11, none, .mov (.t 30)⟩])
 (.region [⟨some 31, none, .mov (.t 7)⟩,⟨some 32, none, .addr (.t 9) 4⟩,⟨some 33, none, .load (.t 32) none⟩,⟨some 34, none, .addr (.t 3) 8⟩,⟨some 35, none, .addr (.t 34) 0⟩,⟨some 36, none, .load (.t 35) none⟩,⟨some 37, none, .mov (.t 11)⟩,⟨some 38, none, .bin .mul (.t 36) (.t 37)⟩,⟨some 39, none, .bin .sub (.t 33) (.t 38)⟩,⟨some 40, none, .mnx true (.c (.int .i64 0)) (.t 39)⟩,⟨some 41, none, .bin .add (.t 31) (.t 40)⟩,⟨some 7, none, .mov (.t 41)⟩]))
 (.skip))))
 (.region [⟨some 42, none, .load (.t 3) (some 21)⟩,⟨some 43, none, .load (.t 9) (some 6)⟩,⟨some 44, none, .call 46 [(.t 42), (.t 43)]⟩,⟨none, none, .store (.t 3) (.t 44) 21⟩]))))
 (.region [⟨some 45, none, .bin .add (.t 14) (.c (.int .i64 1))⟩,⟨some 14, none, .mov (.t 45)⟩])))))))
 (.seq (.region [⟨some 46, none, .mov (.t 7)⟩,⟨some 6, none, .mov (.t 46)⟩])
 (.ret))))
def r50 : List Res := [.t 6]
def a50 : AFn := ⟨3, c50, r50, .v⟩

/-- (bijou/turn.evening).assign -/
def c51 : ACode := .seq (.region [⟨some 2, none, .box (.t 0) 21⟩,⟨some 4, none, .mov (.c (.sl [] .tight))⟩,⟨some 5, none, .mov (.c (.bool false))⟩])
 (.seq (.seq (.region [⟨some 10, none, .mov (.t 1)⟩,⟨some 11, none, .len (.t 10)⟩,⟨some 12, none, .bin .eql (.t 11) (.c (.int .i64 0))⟩])
 (.cond (.t 12) (.seq (.region [⟨some 4, none, .mov (.c (.sl [] .tight))⟩,⟨some 5, none, .mov (.c (.bool true))⟩])
 (.ret))
 (.skip)))
 (.seq (.region [⟨some 13, none, .mov (.t 1)⟩,⟨some 14, none, .idx (.t 13) (.c (.int .i64 0)) 6⟩,⟨some 15, none, .load (.t 14) (some 6)⟩,⟨some 6, none, .new (.agg [(.int .i64 0), (.int .i64 0), (.int .i64 0), (.int .i64 0), (.int .i64 0), (.int .i64 0)]) 6⟩,⟨none, none, .store (.t 6) (.t 15) 6⟩])
 (.seq (.seq (.region [⟨some 16, none, .load (.t 2) (some 21)⟩,⟨some 17, none, .load (.t 6) (some 6)⟩,⟨some 18, none, .call 47 [(.t 16), (.t 17)]⟩])
 (.cond (.t 18) (.seq (.region [⟨some 4, none, .mov (.c (.sl [] .tight))⟩,⟨some 5, none, .mov (.c (.bool false))⟩])
 (.ret))
 (.skip)))
 (.seq (.seq (.region [⟨some 19, none, .addr (.t 2) 0⟩,⟨some 20, none, .addr (.t 19) 0⟩,⟨some 21, none, .load (.t 20) none⟩,⟨some 22, none, .mov (.c (.int .i64 0))⟩])
 (.block 0 (.loop (.seq (.region [⟨some 23, none, .bin .lss (.t 22) (.t 21)⟩])
 (.seq (.cond (.t 23) (.skip)
 (.exit 0))
 (.seq (.block 1 (.seq (.region [⟨some 24, none, .mov (.t 22)⟩,⟨some 7, none, .mov (.t 24)⟩])
 (.seq (.seq (.region [⟨some 25, none, .addr (.t 2) 17⟩,⟨some 26, none, .mov (.t 7)⟩,⟨some 27, none, .aslc (.t 25) none (some (.t 26)) 4⟩,⟨some 28, none, .mov (.t 7)⟩,⟨some 29, none, .addr (.t 2) 17⟩,⟨some 30, none, .aidx (.t 29) (.t 28) 4 1⟩,⟨some 31, none, .load (.t 30) none⟩,⟨some 32, none, .call 64 [(.t 27), (.t 31)]⟩])
 (.cond (.t 32) (.exit 1)
 (.skip)))
 (.seq (.region [⟨some 33, none, .mov (.t 7)⟩,⟨some 34, none, .addr (.t 6) 5⟩,⟨none, none, .store (.t 34) (.t 33) 1⟩])
 (.seq (.region [⟨some 36, none, .load (.t 2) (some 21)⟩,⟨some 37, none, .load (.t 6) (some 6)⟩,⟨some 38, none, .call 46 [(.t 36), (.t 37)]⟩,⟨some 39, none, .mov (.t 1)⟩,⟨some 40, none, .slice (.t 39) (some (.c (.int .i64 1))) none 6⟩,⟨some 41, none, .call 51 [(.t 38), (.t 40)]⟩,⟨some 35, none, .mov (.t 41)⟩,⟨some 42, none, .ext (.t 35) 0⟩,⟨some 43, none, .ext (.t 35) 1⟩,⟨some 8, none, .mov (.t 42)⟩,⟨some 9, none, .mov (.t 43)⟩])
 (.seq (.region [⟨some 44, none, .mov (.t 9)⟩])
 (.cond (.t 44) (.seq (.region [⟨some 45, none, .mov (.t 7)⟩,⟨some 46, none, .lit false 3 1 [(.t 45)]⟩,⟨some 47, none, .mov (.t 8)⟩,⟨some 48, none, .app false (.t 46) (.t 47) 3 1 8⟩,⟨some 4, none, .mov (.t 48)⟩,⟨some 5, none, .mov (.c (.bool true))⟩])
 (.ret))
 (.skip))))))))
 (.region [⟨some 49, none, .bin .add (.t 22) (.c (.int .i64 1))⟩,⟨some 22, none, .mov (.t 49)⟩])))))))
 (.seq (.region [⟨some 4, none, .mov (.c (.sl [] .tight))⟩,⟨some 5, none, .mov (.c (.bool false))⟩])
 (.ret))))))
def r51 : List Res := [.t 4, .t 5]
def a51 : AFn := ⟨2, c51, r51, .v⟩

/-- bijou/bijouref06.IsHouse -/
def c52 : ACode := .seq (.region [⟨some 1, none, .box (.t 0) 8⟩,⟨some 2, none, .mov (.c (.bool false))⟩])
 (.seq (.region [⟨some 3, none, .addr (.t 1) 0⟩,⟨some 4, none, .load (.t 3) none⟩,⟨some 5, none, .call 40 [(.t 4), (.c (.int .i64 1)), (.c (.int .i64 4))]⟩,⟨some 6, none, .mov (.t 5)⟩,⟨some 7, some (6, true), .addr (.t 1) 1⟩,⟨some 8, some (6, true), .load (.t 7) none⟩,⟨some 9, some (6, true), .call 40 [(.t 8), (.c (.int .i64 0)), (.c (.int .i64 60))]⟩,⟨some 10, none, .pick (.t 6) (.t 9) (.c (.bool false))⟩,⟨some 11, none, .mov (.t 10)⟩,⟨some 12, some (11, true), .addr (.t 1) 2⟩,⟨some 13, some (11, true), .load (.t 12) none⟩,⟨some 14, some (11, true), .call 40 [(.t 13), (.c (.int .i64 0)), (.c (.int .i64 120))]⟩,⟨some 15, none, .pick (.t 11) (.t 14) (.c (.bool false))⟩,⟨some 16, none, .mov (.t 15)⟩,⟨some 17, some (16, true), .addr (.t 1) 3⟩,⟨some 18, some (16, true), .load (.t 17) none⟩,⟨some 19, some (16, true), .call 40 [(.t 18), (.c (.int .i64 0)), (.c (.int .i64 5000))]⟩,⟨some 20, none, .pick (.t 16) (.t 19) (.c (.bool false))⟩,⟨some 21, none, .mov (.t 20)⟩,⟨some 22, some (21, true), .addr (.t 1) 4⟩,⟨some 23, some (21, true), .load (.t 22) (some 2)⟩,⟨some 24, some (21, true), .call 53 [(.t 23), (.c (.int .i64 1)), (.c (.int .i64 100))]⟩,⟨some 25, none, .pick (.t 21) (.t 24) (.c (.bool false))⟩,⟨some 26, none, .mov (.t 25)⟩,⟨some 27, some (26, true), .addr (.t 1) 6⟩,⟨some 28, some (26, true), .load (.t 27) (some 2)⟩,⟨some 29, some (26, true), .call 53 [(.t 28), (.c (.int .i64 1)), (.c (.int .i64 120))]⟩,⟨some 30, none, .pick (.t 26) (.t 29) (.c (.bool false))⟩,⟨some 2, none, .mov (.t 30)⟩])
 (.ret))
def r52 : List Res := [.t 2]
def a52 : AFn := ⟨1, c52, r52, .v⟩

/-- bijou/bijouref06.isSpan -/
def c53 : ACode := .seq (.region [⟨some 3, none, .box (.t 0) 2⟩,⟨some 6, none, .mov (.c (.bool false))⟩])
 (.seq (.region [⟨some 7, none, .mov (.t 1)⟩,⟨some 8, none, .addr (.t 3) 0⟩,⟨some 9, none, .load (.t 8) none⟩,⟨some 10, none, .bin .leq (.t 7) (.t 9)⟩,⟨some 11, none, .mov (.t 10)⟩,⟨some 12, some (11, true), .addr (.t 3) 0⟩,⟨some 13, some (11, true), .load (.t 12) none⟩,⟨some 14, some (11, true), .addr (.t 3) 1⟩,⟨some 15, some (11, true), .load (.t 14) none⟩,⟨some 16, some (11, true), .bin .leq (.t 13) (.t 15)⟩,⟨some 17, none, .pick (.t 11) (.t 16) (.c (.bool false))⟩,⟨some 18, none, .mov (.t 17)⟩,⟨some 19, some (18, true), .addr (.t 3) 1⟩,⟨some 20, some (18, true), .load (.t 19) none⟩,⟨some 21, some (18, true), .mov (.t 2)⟩,⟨some 22, some (18, true), .bin .leq (.t 20) (.t 21)⟩,⟨some 23, none, .pick (.t 18) (.t 22) (.c (.bool false))⟩,⟨some 6, none, .mov (.t 23)⟩])
 (.ret))
def r53 : List Res := [.t 6]
def a53 : AFn := ⟨3, c53, r53, .v⟩

/-- bijou/turn.canBeSlot -/
def c54 : ACode := .seq (.region [⟨some 2, none, .box (.t 0) 8⟩,⟨some 3, none, .box (.t 1) 6⟩,⟨some 4, none, .mov (.c (.bool false))⟩])
 (.seq (.region [⟨some 5, none, .addr (.t 3) 0⟩,⟨some 6, none, .load (.t 5) none⟩,⟨some 7, none, .call 49 [(.t 6), (.c (.int .i64 0)), (.c (.int .i64 5))]⟩,⟨some 8, none, .mov (.t 7)⟩,⟨some 9, some (8, true), .addr (.t 3) 2⟩,⟨some 10, some (8, true), .load (.t 9) (some 2)⟩,⟨some 11, some (8, true), .call 65 [(.t 10), (.c (.int .i64 1)), (.c (.int .i64 400))]⟩,⟨some 12, none, .pick (.t 8) (.t 11) (.c (.bool false))⟩,⟨some 13, none, .mov (.t 12)⟩,⟨some 14, some (13, true), .addr (.t 3) 4⟩,⟨some 15, some (13, true), .load (.t 14) none⟩,⟨some 16, some (13, true), .call 49 [(.t 15), (.c (.int .i64 0)), (.c (.int .i64 500))]⟩,⟨some 17, none, .pick (.t 13) (.t 16) (.c (.bool false))⟩,⟨some 18, none, .mov (.t 17)⟩,⟨some 19, some (18, true), .addr (.t 3) 5⟩,⟨some 20, some (18, true), .load (.t 19) none⟩,⟨some 21, some (18, true), .addr (.t 2) 0⟩,⟨some 22, some (18, true), .load (.t 21) none⟩,⟨some 23, some (18, true), .bin .sub (.t 22) (.c (.int .i64 1))⟩,⟨some 24, some (18, true), .call 49 [(.t 20), (.c (.int .i64 0)), (.t 23)]⟩,⟨some 25, none, .pick (.t 18) (.t 24) (.c (.bool false))⟩,⟨some 4, none, .mov (.t 25)⟩])
 (.ret))
def r54 : List Res := [.t 4]
def a54 : AFn := ⟨2, c54, r54, .v⟩

/-- bijou/turn.comesBehind -/
def c55 : ACode := .seq (.region [⟨some 3, none, .box (.t 1) 6⟩,⟨some 4, none, .mov (.c (.bool false))⟩])
 (.seq (.seq (.region [⟨some 7, none, .mov (.t 0)⟩,⟨some 8, none, .len (.t 7)⟩,⟨some 9, none, .mov (.c (.int .i64 0))⟩])
 (.block 0 (.loop (.seq (.region [⟨some 10, none, .bin .lss (.t 9) (.t 8)⟩])
 (.seq (.cond (.t 10) (.skip)
 (.exit 0))
 (.seq (.block 1 (.seq (.region [⟨some 11, none, .idx (.t 7) (.t 9) 6⟩,⟨some 12, none, .load (.t 11) (some 6)⟩,⟨some 6, none, .new (.agg [(.int .i64 0), (.int .i64 0), (.int .i64 0), (.int .i64 0), (.int .i64 0), (.int .i64 0)]) 6⟩,⟨none, none, .store (.t 6) (.t 12) 6⟩])
 (.seq (.region [⟨some 13, none, .addr (.t 3) 1⟩,⟨some 14, none, .load (.t 13) none⟩,⟨some 15, none, .addr (.t 6) 1⟩,⟨some 16, none, .load (.t 15) none⟩,⟨some 17, none, .bin .lss (.t 14) (.t 16)⟩,⟨some 18, none, .mov (.t 17)⟩,⟨some 19, some (18, false), .addr (.t 3) 1⟩,⟨some 20, some (18, false), .load (.t 19) none⟩,⟨some 21, some (18, false), .addr (.t 6) 1⟩,⟨some 22, some (18, false), .load (.t 21) none⟩,⟨some 23, some (18, false), .bin .eql (.t 20) (.t 22)⟩,⟨some 24, some (18, false), .mov (.t 23)⟩,⟨some 25, some (24, true), .addr (.t 3) 0⟩,⟨some 26, some (24, true), .load (.t 25) none⟩,⟨some 27, some (24, true), .addr (.t 6) 0⟩,⟨some 28, some (24, true), .load (.t 27) none⟩,⟨some 29, some (24, true), .bin .eql (.t 26) (.t 28)⟩,⟨some 30, some (18, false), .pick (.t 24) (.t 29) (.c (.bool false))⟩,⟨some 31, none, .pick (.t 18) (.c (.bool true)) (.t 30)⟩])
 (.cond (.t 31) (.seq (.region [⟨some 4, none, .mov (.c (.bool false))⟩])
 (.ret))
 (.skip)))))
 (.region [⟨some 32, none, .bin .add (.t 9) (.c (.int .i64 1))⟩,⟨some 9, none, .mov (.t 32)⟩])))))))
 (.seq (.region [⟨some 4, none, .mov (.c (.bool true))⟩])
 (.ret)))
def r55 : List Res := [.t 4]
def a55 : AFn := ⟨2, c55, r55, .v⟩

/-- bijou/turn.validHouse -/
def c56 : ACode := .seq (.region [⟨some 1, none, .box (.t 0) 8⟩,⟨some 2, none, .mov (.c (.bool false))⟩])
 (.seq (.region [⟨some 3, none, .addr (.t 1) 0⟩,⟨some 4, none, .load (.t 3) none⟩,⟨some 5, none, .call 49 [(.t 4), (.c (.int .i64 1)), (.c (.int .i64 4))]⟩,⟨some 6, none, .mov (.t 5)⟩,⟨some 7, some (6, true), .addr (.t 1) 1⟩,⟨some 8, some (6, true), .load (.t 7) none⟩,⟨some 9, some (6, true), .call 49 [(.t 8), (.c (.int .i64 0)), (.c (.int .i64 60))]⟩,⟨some 10, none, .pick (.t 6) (.t 9) (.c (.bool false))⟩,⟨some 11, none, .mov (.t 10)⟩,⟨some 12, some (11, true), .addr (.t 1) 2⟩,⟨some 13, some (11, true), .load (.t 12) none⟩,⟨some 14, some (11, true), .call 49 [(.t 13), (.c (.int .i64 0)), (.c (.int .i64 120))]⟩,⟨some 15, none, .pick (.t 11) (.t 14) (.c (.bool false))⟩,⟨some 16, none, .mov (.t 15)⟩,⟨some 17, some (16, true), .addr (.t 1) 3⟩,⟨some 18, some (16, true), .load (.t 17) none⟩,⟨some 19, some (16, true), .call 49 [(.t 18), (.c (.int .i64 0)), (.c (.int .i64 5000))]⟩,⟨some 20, none, .pick (.t 16) (.t 19) (.c (.bool false))⟩,⟨some 21, none, .mov (.t 20)⟩,⟨some 22, some (21, true), .addr (.t 1) 4⟩,⟨some 23, some (21, true), .load (.t 22) (some 2)⟩,⟨some 24, some (21, true), .call 65 [(.t 23), (.c (.int .i64 1)), (.c (.int .i64 100))]⟩,⟨some 25, none, .pick (.t 21) (.t 24) (.c (.bool false))⟩,⟨some 26, none, .mov (.t 25)⟩,⟨some 27, some (26, true), .addr (.t 1) 6⟩,⟨some 28, some (26, true), .load (.t 27) (some 2)⟩,⟨some 29, some (26, true), .call 65 [(.t 28), (.c (.int .i64 1)), (.c (.int .i64 120))]⟩,⟨some 30, none, .pick (.t 26) (.t 29) (.c (.bool false))⟩,⟨some 2, none, .mov (.t 30)⟩])
 (.ret))
def r56 : List Res := [.t 2]
def a56 : AFn := ⟨1, c56, r56, .v⟩

/-- bijou/turn.validSlots -/
def c57 : ACode := .seq (.region [⟨some 2, none, .box (.t 0) 8⟩,⟨some 4, none, .mov (.c (.bool false))⟩])
 (.seq (.seq (.region [⟨some 7, none, .mov (.t 1)⟩,⟨some 8, none, .len (.t 7)⟩,⟨some 9, none, .bin .gtr (.t 8) (.c (.int .i64 12))⟩])
 (.cond (.t 9) (.seq (.region [⟨some 4, none, .mov (.c (.bool false))⟩])
 (.ret))
 (.skip)))
 (.seq (.seq (.region [⟨some 10, none, .mov (.t 1)⟩,⟨some 11, none, .len (.t 10)⟩,⟨some 12, none, .mov (.c (.int .i64 0))⟩])
 (.block 0 (.loop (.seq (.region [⟨some 13, none, .bin .lss (.t 12) (.t 11)⟩])
 (.seq (.cond (.t 13) (.skip)
 (.exit 0))
 (.seq (.block 1 (.seq (.region [⟨some 14, none, .mov (.t 12)⟩,⟨some 15, none, .idx (.t 10) (.t 12) 6⟩,⟨some 16, none, .load (.t 15) (some 6)⟩,⟨some 6, none, .new (.agg [(.int .i64 0), (.int .i64 0), (.int .i64 0), (.int .i64 0), (.int .i64 0), (.int .i64 0)]) 6⟩,⟨some 5, none, .mov (.t 14)⟩,⟨none, none, .store (.t 6) (.t 16) 6⟩])
 (.seq (.region [⟨some 17, none, .load (.t 2) (some 8)⟩,⟨some 18, none, .load (.t 6) (some 6)⟩,⟨some 19, none, .call 54 [(.t 17), (.t 18)]⟩,⟨some 20, none, .not (.t 19)⟩,⟨some 21, none, .mov (.t 20)⟩,⟨some 22, some (21, false), .addr (.t 6) 1⟩,⟨some 23, some (21, false), .load (.t 22) none⟩,⟨some 24, some (21, false), .call 49 [(.t 23), (.c (.int .i64 0)), (.c (.int .i64 2000))]⟩,⟨some 25, some (21, false), .not (.t 24)⟩,⟨some 26, none, .pick (.t 21) (.c (.bool true)) (.t 25)⟩,⟨some 27, none, .mov (.t 26)⟩,⟨some 28, some (27, false), .mov (.t 1)⟩,⟨some 29, some (27, false), .mov (.t 5)⟩,⟨some 30, some (27, false), .slice (.t 28) none (some (.t 29)) 6⟩,⟨some 31, some (27, false), .load (.t 6) (some 6)⟩,⟨some 32, some (27, false), .call 55 [(.t 30), (.t 31)]⟩,⟨some 33, some (27, false), .not (.t 32)⟩,⟨some 34, none, .pick (.t 27) (.c (.bool true)) (.t 33)⟩])
 (.cond (.t 34) (.seq (.region [⟨some 4, none, .mov (.c (.bool false))⟩])
 (.ret))
 (.skip)))))
 (.region [⟨some 35, none, .bin .add (.t 12) (.c (.int .i64 1))⟩,⟨some 12, none, .mov (.t 35)⟩])))))))
 (.seq (.region [⟨some 4, none, .mov (.c (.bool true))⟩])
 (.ret))))
def r57 : List Res := [.t 4]
def a57 : AFn := ⟨2, c57, r57, .v⟩

/-- bijou/bijouref06.bound -/
def c58 : ACode := .seq (.region [⟨some 3, none, .box (.t 0) 8⟩,⟨some 6, none, .new (.agg [(.sl [] .tight), (.sl [] .tight), (.int .i64 0)]) 3⟩])
 (.seq (.region [⟨some 9, none, .addr (.t 3) 4⟩,⟨some 10, none, .addr (.t 9) 1⟩,⟨some 11, none, .load (.t 10) none⟩,⟨some 12, none, .build [(.sl [] .tight), (.sl [] .tight), (.int .i64 0)] [(2, 1, (.t 11))]⟩,⟨some 7, none, .new (.agg [(.sl [] .tight), (.sl [] .tight), (.int .i64 0)]) 3⟩,⟨none, none, .store (.t 7) (.t 12) 3⟩])
 (.seq (.seq (.region [⟨some 13, none, .mov (.t 2)⟩])
 (.cond (.t 13) (.region [⟨some 14, none, .addr (.t 3) 4⟩,⟨some 15, none, .addr (.t 14) 0⟩,⟨some 16, none, .load (.t 15) none⟩,⟨some 17, none, .addr (.t 7) 2⟩,⟨none, none, .store (.t 17) (.t 16) 1⟩])
 (.skip)))
 (.seq (.seq (.region [⟨some 8, none, .mov (.c (.int .i64 0))⟩])
 (.block 0 (.loop (.seq (.seq (.region [⟨some 18, none, .mov (.t 8)⟩,⟨some 19, none, .mov (.t 1)⟩,⟨some 20, none, .len (.t 19)⟩,⟨some 21, none, .bin .lss (.t 18) (.t 20)⟩])
 (.cond (.t 21) (.skip)
 (.exit 0)))
 (.seq (.block 1 (.seq (.region [⟨some 24, none, .mov (.t 2)⟩])
 (.cond (.t 24) (.regionD [⟨some 25, none, .addr (.t 7) 0⟩,⟨some 26, none, .load (.t 25) none⟩,⟨some 27, none, .mov (.t 1)⟩,⟨some 28, none, .mov (.t 8)⟩,⟨some 29, none, .idx (.t 27) (.t 28) 6⟩,⟨some 30, none, .addr (.t 29) 2⟩,⟨some 31, none, .addr (.t 30) 1⟩,⟨some 32, none, .load (.t 31) none⟩,⟨some 33, none, .lit false 3 1 [(.t 32)]⟩,⟨some 35, none, .addr (.t 7) 1⟩,⟨some 36, none, .load (.t 35) none⟩,⟨some 37, none, .addr (.t 3) 6⟩,⟨some 38, none, .addr (.t 37) 1⟩,⟨some 39, none, .load (.t 38) none⟩,⟨some 40, none, .lit false 3 1 [(.t 39)]⟩,⟨some 34, none, .app false (.t 26) (.t 33) 3 1 8⟩,⟨some 42, none, .addr (.t 7) 0⟩,⟨some 41, none, .app false (.t 36) (.t 40) 3 1 8⟩,⟨none, none, .store (.t 42) (.t 34) 1⟩,⟨some 43, none, .addr (.t 7) 1⟩,⟨none, none, .store (.t 43) (.t 41) 1⟩] [(7, 26), (35, 26), (3, 26), (37, 26), (38, 26), (7, 36)])
 (.regionD [⟨some 44, none, .addr (.t 7) 0⟩,⟨some 45, none, .load (.t 44) none⟩,⟨some 46, none, .mov (.t 1)⟩,⟨some 47, none, .mov (.t 8)⟩,⟨some 48, none, .idx (.t 46) (.t 47) 6⟩,⟨some 49, none, .addr (.t 48) 2⟩,⟨some 50, none, .addr (.t 49) 0⟩,⟨some 51, none, .load (.t 50) none⟩,⟨some 52, none, .lit false 3 1 [(.t 51)]⟩,⟨some 54, none, .addr (.t 7) 1⟩,⟨some 55, none, .load (.t 54) none⟩,⟨some 56, none, .addr (.t 3) 6⟩,⟨some 57, none, .addr (.t 56) 0⟩,⟨some 58, none, .load (.t 57) none⟩,⟨some 59, none, .lit false 3 1 [(.t 58)]⟩,⟨some 53, none, .app false (.t 45) (.t 52) 3 1 8⟩,⟨some 61, none, .addr (.t 7) 0⟩,⟨some 60, none, .app false (.t 55) (.t 59) 3 1 8⟩,⟨none, none, .store (.t 61) (.t 53) 1⟩,⟨some 62, none, .addr (.t 7) 1⟩,⟨none, none, .store (.t 62) (.t 60) 1⟩] [(7, 45), (54, 45), (3, 45), (56, 45), (57, 45), (7, 55)]))))
 (.region [⟨some 22, none, .mov (.t 8)⟩,⟨some 23, none, .bin .add (.t 22) (.c (.int .i64 1))⟩,⟨some 8, none, .mov (.t 23)⟩]))))))
 (.seq (.region [⟨some 63, none, .load (.t 7) (some 3)⟩,⟨none, none, .store (.t 6) (.t 63) 3⟩])
 (.ret)))))
def r58 : List Res := [.cell 6 (some 3)]
def a58 : AFn := ⟨3, c58, r58, .v⟩

/-- bijou/bijouref06.late -/
def c59 : ACode := .seq (.region [⟨some 2, none, .box (.t 0) 8⟩,⟨some 4, none, .mov (.c (.int .i64 0))⟩,⟨some 5, none, .mov (.c (.int .i64 0))⟩])
 (.seq (.region [⟨some 8, none, .load (.t 2) (some 8)⟩,⟨some 9, none, .mov (.t 1)⟩,⟨some 10, none, .load (.t 2) (some 8)⟩,⟨some 11, none, .mov (.t 1)⟩,⟨some 12, none, .call 58 [(.t 10), (.t 11), (.c (.bool true))]⟩,⟨some 13, none, .call 18 [(.t 8), (.t 9), (.t 12)]⟩,⟨some 6, none, .mov (.t 13)⟩])
 (.seq (.seq (.region [⟨some 7, none, .mov (.c (.int .i64 0))⟩])
 (.block 0 (.loop (.seq (.seq (.region [⟨some 14, none, .mov (.t 7)⟩,⟨some 15, none, .mov (.t 1)⟩,⟨some 16, none, .len (.t 15)⟩,⟨some 17, none, .bin .lss (.t 14) (.t 16)⟩])
 (.cond (.t 17) (.skip)
 (.exit 0)))
 (.seq (.block 1 (.seq (.region [⟨some 20, none, .mov (.t 6)⟩,⟨some 21, none, .mov (.t 7)⟩,⟨some 22, none, .idx (.t 20) (.t 21) 5⟩,⟨some 23, none, .addr (.t 22) 2⟩,⟨some 24, none, .load (.t 23) none⟩,⟨some 25, none, .mov (.t 1)⟩,⟨some 26, none, .mov (.t 7)⟩,⟨some 27, none, .idx (.t 25) (.t 26) 6⟩,⟨some 28, none, .addr (.t 27) 1⟩,⟨some 29, none, .load (.t 28) none⟩,⟨some 30, none, .bin .gtr (.t 24) (.t 29)⟩])
 (.cond (.t 30) (.seq (.region [⟨some 31, none, .mov (.t 7)⟩,⟨some 32, none, .mov (.t 6)⟩,⟨some 33, none, .mov (.t 7)⟩,⟨some 34, none, .idx (.t 32) (.t 33) 5⟩,⟨some 35, none, .addr (.t 34) 2⟩,⟨some 36, none, .load (.t 35) none⟩,⟨some 37, none, .mov (.t 1)⟩,⟨some 38, none, .mov (.t 7)⟩,⟨some 39, none, .idx (.t 37) (.t 38) 6⟩,⟨some 40, none, .addr (.t 39) 1⟩,⟨some 41, none, .load (.t 40) none⟩,⟨some 42, none, .bin .sub (.t 36) (.t 41)⟩,⟨some 4, none, .mov (.t 31)⟩,⟨some 5, none, .mov (.t 42)⟩])
 (.ret))
 (.skip))))
 (.region [⟨some 18, none, .mov (.t 7)⟩,⟨some 19, none, .bin .add (.t 18) (.c (.int .i64 1))⟩,⟨some 7, none, .mov (.t 19)⟩]))))))
 (.seq (.region [⟨some 4, none, .mov (.c (.int .i64 (-1)))⟩,⟨some 5, none, .mov (.c (.int .i64 0))⟩])
 (.ret))))
def r59 : List Res := [.t 4, .t 5]
def a59 : AFn := ⟨2, c59, r59, .v⟩

/-- bijou/bijouref06.can -/
def c60 : ACode := .seq (.region [⟨some 4, none, .box (.t 0) 8⟩,⟨some 8, none, .mov (.c (.bool false))⟩])
 (.seq (.seq (.region [⟨some 13, none, .load (.t 4) (some 8)⟩,⟨some 14, none, .mov (.t 1)⟩,⟨some 15, none, .mov (.t 2)⟩,⟨some 16, none, .len (.t 15)⟩,⟨some 17, none, .slice (.t 14) none (some (.t 16)) 6⟩,⟨some 18, none, .mov (.t 2)⟩,⟨some 19, none, .call 26 [(.t 17), (.t 18)]⟩,⟨some 20, none, .call 59 [(.t 13), (.t 19)]⟩,⟨some 12, none, .mov (.t 20)⟩,⟨some 21, none, .ext (.t 12) 0⟩,⟨some 22, none, .ext (.t 12) 1⟩,⟨some 9, none, .mov (.t 21)⟩,⟨some 10, none, .mov (.t 22)⟩])
 (.seq (.region [⟨some 23, none, .mov (.t 9)⟩,⟨some 24, none, .bin .geq (.t 23) (.c (.int .i64 0))⟩])
 (.cond (.t 24) (.seq (.region [⟨some 8, none, .mov (.c (.bool false))⟩])
 (.ret))
 (.skip))))
 (.seq (.seq (.region [⟨some 25, none, .mov (.t 2)⟩,⟨some 26, none, .len (.t 25)⟩,⟨some 27, none, .mov (.t 1)⟩,⟨some 28, none, .len (.t 27)⟩,⟨some 29, none, .bin .eql (.t 26) (.t 28)⟩])
 (.cond (.t 29) (.seq (.region [⟨some 8, none, .mov (.c (.bool true))⟩])
 (.ret))
 (.skip)))
 (.seq (.seq (.region [⟨some 11, none, .mov (.c (.int .i64 0))⟩])
 (.block 0 (.loop (.seq (.seq (.region [⟨some 30, none, .mov (.t 11)⟩,⟨some 31, none, .mov (.t 3)⟩,⟨some 32, none, .bin .lss (.t 30) (.t 31)⟩])
 (.cond (.t 32) (.skip)
 (.exit 0)))
 (.seq (.block 1 (.seq (.regionD [⟨some 35, none, .load (.t 4) (some 8)⟩,⟨some 36, none, .mov (.t 1)⟩,⟨some 37, none, .lit false 3 1 []⟩,⟨some 38, none, .mov (.t 2)⟩,⟨some 39, none, .app false (.t 37) (.t 38) 3 1 8⟩,⟨some 40, none, .mov (.t 11)⟩,⟨some 41, none, .lit false 3 1 [(.t 40)]⟩,⟨some 42, none, .app false (.t 39) (.t 41) 3 1 8⟩,⟨some 43, none, .mov (.t 3)⟩,⟨some 44, none, .call 60 [(.t 35), (.t 36), (.t 42), (.t 43)]⟩] [(4, 37), (4, 39)])
 (.cond (.t 44) (.seq (.region [⟨some 8, none, .mov (.c (.bool true))⟩])
 (.ret))
 (.skip))))
 (.region [⟨some 33, none, .mov (.t 11)⟩,⟨some 34, none, .bin .add (.t 33) (.c (.int .i64 1))⟩,⟨some 11, none, .mov (.t 34)⟩]))))))
 (.seq (.region [⟨some 8, none, .mov (.c (.bool false))⟩])
 (.ret)))))
def r60 : List Res := [.t 8]
def a60 : AFn := ⟨4, c60, r60, .v⟩

/-- bijou/turn.fastest -/
def c61 : ACode := .seq (.region [⟨some 1, none, .box (.t 0) 8⟩,⟨some 2, none, .new (.agg [(.int .i64 0), (.int .i64 0), .nilf]) 3⟩])
 (.seq (.region [⟨some 3, none, .load (.t 1) (some 8)⟩,⟨some 4, none, .addr (.t 1) 4⟩,⟨some 5, none, .addr (.t 4) 1⟩,⟨some 6, none, .load (.t 5) none⟩,⟨some 7, none, .call 66 [(.t 3), (.t 6), (.c (.fn 67 [] []))]⟩,⟨none, none, .store (.t 2) (.t 7) 3⟩])
 (.ret))
def r61 : List Res := [.cell 2 (some 3)]
def a61 : AFn := ⟨1, c61, r61, .v⟩

/-- bijou/turn.slowest -/
def c62 : ACode := .seq (.region [⟨some 1, none, .box (.t 0) 8⟩,⟨some 2, none, .new (.agg [(.int .i64 0), (.int .i64 0), .nilf]) 3⟩])
 (.seq (.region [⟨some 3, none, .load (.t 1) (some 8)⟩,⟨some 4, none, .addr (.t 1) 4⟩,⟨some 5, none, .addr (.t 4) 0⟩,⟨some 6, none, .load (.t 5) none⟩,⟨some 7, none, .call 66 [(.t 3), (.t 6), (.c (.fn 68 [] []))]⟩,⟨none, none, .store (.t 2) (.t 7) 3⟩])
 (.ret))
def r62 : List Res := [.cell 2 (some 3)]
def a62 : AFn := ⟨1, c62, r62, .v⟩

/-- (bijou/turn.pace).passing -/
def c63 : ACode := .seq (.region [⟨some 2, none, .box (.t 0) 3⟩,⟨some 4, none, .mov (.c (.int .i64 0))⟩])
 (.seq (.region [⟨some 5, none, .mov (.t 1)⟩,⟨some 6, none, .addr (.t 2) 0⟩,⟨some 7, none, .load (.t 6) none⟩,⟨some 8, none, .bin .add (.t 5) (.t 7)⟩,⟨some 9, none, .bin .sub (.t 8) (.c (.int .i64 1))⟩,⟨some 10, none, .addr (.t 2) 0⟩,⟨some 11, none, .load (.t 10) none⟩,⟨some 12, none, .bin .quo (.t 9) (.t 11)⟩,⟨some 4, none, .mov (.t 12)⟩])
 (.ret))
def r63 : List Res := [.t 4]
def a63 : AFn := ⟨2, c63, r63, .v⟩

/-- slices.Contains[[]int,int] -/
def c64 : ACode := .seq (.region [⟨some 4, none, .mov (.c (.bool false))⟩])
 (.seq (.region [⟨some 5, none, .mov (.t 0)⟩,⟨some 6, none, .mov (.t 1)⟩,⟨some 7, none, .call 69 [(.t 5), (.t 6)]⟩,⟨some 8, none, .bin .geq (.t 7) (.c (.int .i64 0))⟩,⟨some 4, none, .mov (.t 8)⟩])
 (.ret))
def r64 : List Res := [.t 4]
def a64 : AFn := ⟨2, c64, r64, .v⟩

/-- bijou/turn.isSpanWithin -/
def c65 : ACode := .seq (.region [⟨some 3, none, .box (.t 0) 2⟩,⟨some 6, none, .mov (.c (.bool false))⟩])
 (.seq (.region [⟨some 7, none, .mov (.t 1)⟩,⟨some 8, none, .addr (.t 3) 0⟩,⟨some 9, none, .load (.t 8) none⟩,⟨some 10, none, .bin .leq (.t 7) (.t 9)⟩,⟨some 11, none, .mov (.t 10)⟩,⟨some 12, some (11, true), .addr (.t 3) 0⟩,⟨some 13, some (11, true), .load (.t 12) none⟩,⟨some 14, some (11, true), .addr (.t 3) 1⟩,⟨some 15, some (11, true), .load (.t 14) none⟩,⟨some 16, some (11, true), .bin .leq (.t 13) (.t 15)⟩,⟨some 17, none, .pick (.t 11) (.t 16) (.c (.bool false))⟩,⟨some 18, none, .mov (.t 17)⟩,⟨some 19, some (18, true), .addr (.t 3) 1⟩,⟨some 20, some (18, true), .load (.t 19) none⟩,⟨some 21, some (18, true), .mov (.t 2)⟩,⟨some 22, some (18, true), .bin .leq (.t 20) (.t 21)⟩,⟨some 23, none, .pick (.t 18) (.t 22) (.c (.bool false))⟩,⟨some 6, none, .mov (.t 23)⟩])
 (.ret))
def r65 : List Res := [.t 6]
def a65 : AFn := ⟨3, c65, r65, .v⟩

/-- bijou/turn.newPace -/
def c66 : ACode := .seq (.region [⟨some 3, none, .box (.t 0) 8⟩,⟨some 5, none, .box (.t 2) 1⟩,⟨some 6, none, .new (.agg [(.int .i64 0), (.int .i64 0), .nilf]) 3⟩])
 (.seq (.region [⟨some 7, none, .mov (.t 1)⟩,⟨some 8, none, .load (.t 5) none⟩,⟨some 9, none, .addr (.t 3) 6⟩,⟨some 10, none, .load (.t 9) (some 2)⟩,⟨some 11, none, .callv (.t 8) [(.t 10)]⟩,⟨some 12, none, .clo 70 [] [(.t 5)]⟩,⟨some 13, none, .build [(.int .i64 0), (.int .i64 0), .nilf] [(0, 1, (.t 7)), (1, 1, (.t 11)), (2, 1, (.t 12))]⟩,⟨none, none, .store (.t 6) (.t 13) 3⟩])
 (.ret))
def r66 : List Res := [.cell 6 (some 3)]
def a66 : AFn := ⟨3, c66, r66, .v⟩

/-- bijou/turn.fastest$1 -/
def c67 : ACode := .seq (.region [⟨some 1, none, .box (.t 0) 2⟩,⟨some 2, none, .mov (.c (.int .i64 0))⟩])
 (.seq (.region [⟨some 3, none, .addr (.t 1) 0⟩,⟨some 4, none, .load (.t 3) none⟩,⟨some 2, none, .mov (.t 4)⟩])
 (.ret))
def r67 : List Res := [.t 2]
def a67 : AFn := ⟨1, c67, r67, .v⟩

/-- bijou/turn.slowest$1 -/
def c68 : ACode := .seq (.region [⟨some 1, none, .box (.t 0) 2⟩,⟨some 2, none, .mov (.c (.int .i64 0))⟩])
 (.seq (.region [⟨some 3, none, .addr (.t 1) 1⟩,⟨some 4, none, .load (.t 3) none⟩,⟨some 2, none, .mov (.t 4)⟩])
 (.ret))
def r68 : List Res := [.t 2]
def a68 : AFn := ⟨1, c68, r68, .v⟩

/-- slices.Index[[]int,int] -/
def c69 : ACode := .seq (.region [⟨some 4, none, .mov (.c (.int .i64 0))⟩])
 (.seq (.seq (.region [⟨some 6, none, .mov (.t 0)⟩,⟨some 7, none, .len (.t 6)⟩,⟨some 8, none, .mov (.c (.int .i64 0))⟩])
 (.block 0 (.loop (.seq (.region [⟨some 9, none, .bin .lss (.t 8) (.t 7)⟩])
 (.seq (.cond (.t 9) (.skip)
 (.exit 0))
 (.seq (.block 1 (.seq (.region [⟨some 10, none, .mov (.t 8)⟩,⟨some 5, none, .mov (.t 10)⟩])
 (.seq (.region [⟨some 11, none, .mov (.t 1)⟩,⟨some 12, none, .mov (.t 0)⟩,⟨some 13, none, .mov (.t 5)⟩,⟨some 14, none, .idx (.t 12) (.t 13) 1⟩,⟨some 15, none, .load (.t 14) none⟩,⟨some 16, none, .bin .eql (.t 11) (.t 15)⟩])
 (.cond (.t 16) (.seq (.region [⟨some 17, none, .mov (.t 5)⟩,⟨some 4, none, .mov (.t 17)⟩])
 (.ret))
 (.skip)))))
 (.region [⟨some 18, none, .bin .add (.t 8) (.c (.int .i64 1))⟩,⟨some 8, none, .mov (.t 18)⟩])))))))
 (.seq (.region [⟨some 4, none, .mov (.c (.int .i64 (-1)))⟩])
 (.ret)))
def r69 : List Res := [.t 4]
def a69 : AFn := ⟨2, c69, r69, .v⟩

/-- bijou/turn.newPace$1 -/
def c70 : ACode := .seq (.region [⟨some 2, none, .box (.t 0) 6⟩,⟨some 3, none, .mov (.c (.int .i64 0))⟩])
 (.seq (.region [⟨some 4, none, .load (.t 1) none⟩,⟨some 5, none, .addr (.t 2) 2⟩,⟨some 6, none, .load (.t 5) (some 2)⟩,⟨some 7, none, .callv (.t 4) [(.t 6)]⟩,⟨some 3, none, .mov (.t 7)⟩])
 (.ret))
def r70 : List Res := [.t 3]
def a70 : AFn := ⟨2, c70, r70, .v⟩


def ft : FuncId → Option AFn
  | 3 => some a3
  | 4 => some a4
  | 5 => some a5
  | 6 => some a6
  | 7 => some a7
  | 8 => some a8
  | 9 => some a9
  | 10 => some a10
  | 11 => some a11
  | 12 => some a12
  | 13 => some a13
  | 14 => some a14
  | 15 => some a15
  | 16 => some a16
  | 17 => some a17
  | 18 => some a18
  | 19 => some a19
  | 20 => some a20
  | 21 => some a21
  | 22 => some a22
  | 23 => some a23
  | 24 => some a24
  | 25 => some a25
  | 26 => some a26
  | 27 => some a27
  | 28 => some a28
  | 29 => some a29
  | 30 => some a30
  | 31 => some a31
  | 32 => some a32
  | 33 => some a33
  | 34 => some a34
  | 35 => some a35
  | 36 => some a36
  | 37 => some a37
  | 38 => some a38
  | 39 => some a39
  | 40 => some a40
  | 41 => some a41
  | 42 => some a42
  | 43 => some a43
  | 44 => some a44
  | 45 => some a45
  | 46 => some a46
  | 47 => some a47
  | 48 => some a48
  | 49 => some a49
  | 50 => some a50
  | 51 => some a51
  | 52 => some a52
  | 53 => some a53
  | 54 => some a54
  | 55 => some a55
  | 56 => some a56
  | 57 => some a57
  | 58 => some a58
  | 59 => some a59
  | 60 => some a60
  | 61 => some a61
  | 62 => some a62
  | 63 => some a63
  | 64 => some a64
  | 65 => some a65
  | 66 => some a66
  | 67 => some a67
  | 68 => some a68
  | 69 => some a69
  | 70 => some a70
  | _ => none
theorem ft3 : ft 3 = some a3 := rfl
theorem ft4 : ft 4 = some a4 := rfl
theorem ft5 : ft 5 = some a5 := rfl
theorem ft6 : ft 6 = some a6 := rfl
theorem ft7 : ft 7 = some a7 := rfl
theorem ft8 : ft 8 = some a8 := rfl
theorem ft9 : ft 9 = some a9 := rfl
theorem ft10 : ft 10 = some a10 := rfl
theorem ft11 : ft 11 = some a11 := rfl
theorem ft12 : ft 12 = some a12 := rfl
theorem ft13 : ft 13 = some a13 := rfl
theorem ft14 : ft 14 = some a14 := rfl
theorem ft15 : ft 15 = some a15 := rfl
theorem ft16 : ft 16 = some a16 := rfl
theorem ft17 : ft 17 = some a17 := rfl
theorem ft18 : ft 18 = some a18 := rfl
theorem ft19 : ft 19 = some a19 := rfl
theorem ft20 : ft 20 = some a20 := rfl
theorem ft21 : ft 21 = some a21 := rfl
theorem ft22 : ft 22 = some a22 := rfl
theorem ft23 : ft 23 = some a23 := rfl
theorem ft24 : ft 24 = some a24 := rfl
theorem ft25 : ft 25 = some a25 := rfl
theorem ft26 : ft 26 = some a26 := rfl
theorem ft27 : ft 27 = some a27 := rfl
theorem ft28 : ft 28 = some a28 := rfl
theorem ft29 : ft 29 = some a29 := rfl
theorem ft30 : ft 30 = some a30 := rfl
theorem ft31 : ft 31 = some a31 := rfl
theorem ft32 : ft 32 = some a32 := rfl
theorem ft33 : ft 33 = some a33 := rfl
theorem ft34 : ft 34 = some a34 := rfl
theorem ft35 : ft 35 = some a35 := rfl
theorem ft36 : ft 36 = some a36 := rfl
theorem ft37 : ft 37 = some a37 := rfl
theorem ft38 : ft 38 = some a38 := rfl
theorem ft39 : ft 39 = some a39 := rfl
theorem ft40 : ft 40 = some a40 := rfl
theorem ft41 : ft 41 = some a41 := rfl
theorem ft42 : ft 42 = some a42 := rfl
theorem ft43 : ft 43 = some a43 := rfl
theorem ft44 : ft 44 = some a44 := rfl
theorem ft45 : ft 45 = some a45 := rfl
theorem ft46 : ft 46 = some a46 := rfl
theorem ft47 : ft 47 = some a47 := rfl
theorem ft48 : ft 48 = some a48 := rfl
theorem ft49 : ft 49 = some a49 := rfl
theorem ft50 : ft 50 = some a50 := rfl
theorem ft51 : ft 51 = some a51 := rfl
theorem ft52 : ft 52 = some a52 := rfl
theorem ft53 : ft 53 = some a53 := rfl
theorem ft54 : ft 54 = some a54 := rfl
theorem ft55 : ft 55 = some a55 := rfl
theorem ft56 : ft 56 = some a56 := rfl
theorem ft57 : ft 57 = some a57 := rfl
theorem ft58 : ft 58 = some a58 := rfl
theorem ft59 : ft 59 = some a59 := rfl
theorem ft60 : ft 60 = some a60 := rfl
theorem ft61 : ft 61 = some a61 := rfl
theorem ft62 : ft 62 = some a62 := rfl
theorem ft63 : ft 63 = some a63 := rfl
theorem ft64 : ft 64 = some a64 := rfl
theorem ft65 : ft 65 = some a65 := rfl
theorem ft66 : ft 66 = some a66 := rfl
theorem ft67 : ft 67 = some a67 := rfl
theorem ft68 : ft 68 = some a68 := rfl
theorem ft69 : ft 69 = some a69 := rfl
theorem ft70 : ft 70 = some a70 := rfl
end Go.Ab.T
end

section
namespace Go.Ab.T
theorem WB3 (s : St) (as : List AV) (K : AV → St → Prop) : WB ft 3 as s K = WV ft 3 (as.map (snap s.mem dep)) fun v => (as.all (fun a => !hot dep a) || plain dep v) = true ∧ K v s := WB_v ft3 rfl as s K
theorem WB4 (s : St) (as : List AV) (K : AV → St → Prop) : WB ft 4 as s K = WV ft 4 (as.map (snap s.mem dep)) fun v => (as.all (fun a => !hot dep a) || plain dep v) = true ∧ K v s := WB_v ft4 rfl as s K
theorem WB5 (s : St) (as : List AV) (K : AV → St → Prop) : WB ft 5 as s K = WV ft 5 (as.map (snap s.mem dep)) fun v => (as.all (fun a => !hot dep a) || plain dep v) = true ∧ K v s := WB_v ft5 rfl as s K
theorem WB6 (s : St) (as : List AV) (K : AV → St → Prop) : WB ft 6 as s K = WV ft 6 (as.map (snap s.mem dep)) fun v => (as.all (fun a => !hot dep a) || plain dep v) = true ∧ K v s := WB_v ft6 rfl as s K
theorem WB7 (s : St) (as : List AV) (K : AV → St → Prop) : WB ft 7 as s K = WV ft 7 (as.map (snap s.mem dep)) fun v => (as.all (fun a => !hot dep a) || plain dep v) = true ∧ K v s := WB_v ft7 rfl as s K
theorem WB8 (s : St) (as : List AV) (K : AV → St → Prop) : WB ft 8 as s K = WV ft 8 (as.map (snap s.mem dep)) fun v => (as.all (fun a => !hot dep a) || plain dep v) = true ∧ K v s := WB_v ft8 rfl as s K
theorem WB9 (s : St) (as : List AV) (K : AV → St → Prop) : WB ft 9 as s K = WV ft 9 (as.map (snap s.mem dep)) fun v => (as.all (fun a => !hot dep a) || plain dep v) = true ∧ K v s := WB_v ft9 rfl as s K
theorem WB10 (s : St) (as : List AV) (K : AV → St → Prop) : WB ft 10 as s K = WV ft 10 (as.map (snap s.mem dep)) fun v => (as.all (fun a => !hot dep a) || plain dep v) = true ∧ K v s := WB_v ft10 rfl as s K
theorem WB11 (s : St) (as : List AV) (K : AV → St → Prop) : WB ft 11 as s K = WV ft 11 (as.map (snap s.mem dep)) fun v => (as.all (fun a => !hot dep a) || plain dep v) = true ∧ K v s := WB_v ft11 rfl as s K
theorem WB12 (s : St) (as : List AV) (K : AV → St → Prop) : WB ft 12 as s K = WV ft 12 (as.map (snap s.mem dep)) fun v => (as.all (fun a => !hot dep a) || plain dep v) = true ∧ K v s := WB_v ft12 rfl as s K
theorem WB13 (s : St) (as : List AV) (K : AV → St → Prop) : WB ft 13 as s K = WV ft 13 (as.map (snap s.mem dep)) fun v => (as.all (fun a => !hot dep a) || plain dep v) = true ∧ K v s := WB_v ft13 rfl as s K
theorem WB14 (s : St) (as : List AV) (K : AV → St → Prop) : WB ft 14 as s K = WV ft 14 (as.map (snap s.mem dep)) fun v => (as.all (fun a => !hot dep a) || plain dep v) = true ∧ K v s := WB_v ft14 rfl as s K
theorem WB15 (s : St) (as : List AV) (K : AV → St → Prop) : WB ft 15 as s K = WV ft 15 (as.map (snap s.mem dep)) fun v => (as.all (fun a => !hot dep a) || plain dep v) = true ∧ K v s := WB_v ft15 rfl as s K
theorem WB16 (s : St) (as : List AV) (K : AV → St → Prop) : WB ft 16 as s K = WV ft 16 (as.map (snap s.mem dep)) fun v => (as.all (fun a => !hot dep a) || plain dep v) = true ∧ K v s := WB_v ft16 rfl as s K
theorem WB17 (s : St) (as : List AV) (K : AV → St → Prop) : WB ft 17 as s K = WV ft 17 (as.map (snap s.mem dep)) fun v => (as.all (fun a => !hot dep a) || plain dep v) = true ∧ K v s := WB_v ft17 rfl as s K
theorem WB18 (s : St) (as : List AV) (K : AV → St → Prop) : WB ft 18 as s K = WV ft 18 (as.map (snap s.mem dep)) fun v => (as.all (fun a => !hot dep a) || plain dep v) = true ∧ K v s := WB_v ft18 rfl as s K
theorem WB19 (s : St) (as : List AV) (K : AV → St → Prop) : WB ft 19 as s K = WV ft 19 (as.map (snap s.mem dep)) fun v => (as.all (fun a => !hot dep a) || plain dep v) = true ∧ K v s := WB_v ft19 rfl as s K
theorem WB20 (s : St) (as : List AV) (K : AV → St → Prop) : WB ft 20 as s K = WR ft (.f 20) (as.map (snap s.mem dep)) .nil fun v m => (as.all (fun a => !hot dep a) || (ownly dep v && m.blks.all Blk.ownly)) = true ∧
      K (shift s.mem.blks.length s.mem.toks.length dep v) (s.setMem (joinMem s.mem m dep)) := WB_o ft20 rfl as s K
theorem WB21 (s : St) (as : List AV) (K : AV → St → Prop) : WB ft 21 as s K = WV ft 21 (as.map (snap s.mem dep)) fun v => (as.all (fun a => !hot dep a) || plain dep v) = true ∧ K v s := WB_v ft21 rfl as s K
theorem WB22 (s : St) (as : List AV) (K : AV → St → Prop) : WB ft 22 as s K = WV ft 22 (as.map (snap s.mem dep)) fun v => (as.all (fun a => !hot dep a) || plain dep v) = true ∧ K v s := WB_v ft22 rfl as s K
theorem WB23 (s : St) (as : List AV) (K : AV → St → Prop) : WB ft 23 as s K = WV ft 23 (as.map (snap s.mem dep)) fun v => (as.all (fun a => !hot dep a) || plain dep v) = true ∧ K v s := WB_v ft23 rfl as s K
theorem WB24 (s : St) (as : List AV) (K : AV → St → Prop) : WB ft 24 as s K = WV ft 24 (as.map (snap s.mem dep)) fun v => (as.all (fun a => !hot dep a) || plain dep v) = true ∧ K v s := WB_v ft24 rfl as s K
theorem WB25 (s : St) (as : List AV) (K : AV → St → Prop) : WB ft 25 as s K = WV ft 25 (as.map (snap s.mem dep)) fun v => (as.all (fun a => !hot dep a) || plain dep v) = true ∧ K v s := WB_v ft25 rfl as s K
theorem WB26 (s : St) (as : List AV) (K : AV → St → Prop) : WB ft 26 as s K = WV ft 26 (as.map (snap s.mem dep)) fun v => (as.all (fun a => !hot dep a) || plain dep v) = true ∧ K v s := WB_v ft26 rfl as s K
theorem WB27 (s : St) (as : List AV) (K : AV → St → Prop) : WB ft 27 as s K = WV ft 27 (as.map (snap s.mem dep)) fun v => (as.all (fun a => !hot dep a) || plain dep v) = true ∧ K v s := WB_v ft27 rfl as s K
theorem WB28 (s : St) (as : List AV) (K : AV → St → Prop) : WB ft 28 as s K = WV ft 28 (as.map (snap s.mem dep)) fun v => (as.all (fun a => !hot dep a) || plain dep v) = true ∧ K v s := WB_v ft28 rfl as s K
theorem WB29 (s : St) (as : List AV) (K : AV → St → Prop) : WB ft 29 as s K = WV ft 29 (as.map (snap s.mem dep)) fun v => (as.all (fun a => !hot dep a) || plain dep v) = true ∧ K v s := WB_v ft29 rfl as s K
theorem WB30 (s : St) (as : List AV) (K : AV → St → Prop) : WB ft 30 as s K = WV ft 30 (as.map (snap s.mem dep)) fun v => (as.all (fun a => !hot dep a) || plain dep v) = true ∧ K v s := WB_v ft30 rfl as s K
theorem WB31 (s : St) (as : List AV) (K : AV → St → Prop) : WB ft 31 as s K = WV ft 31 (as.map (snap s.mem dep)) fun v => (as.all (fun a => !hot dep a) || plain dep v) = true ∧ K v s := WB_v ft31 rfl as s K
theorem WB32 (s : St) (as : List AV) (K : AV → St → Prop) : WB ft 32 as s K = WV ft 32 (as.map (snap s.mem dep)) fun v => (as.all (fun a => !hot dep a) || plain dep v) = true ∧ K v s := WB_v ft32 rfl as s K
theorem WB33 (s : St) (as : List AV) (K : AV → St → Prop) : WB ft 33 as s K = WV ft 33 (as.map (snap s.mem dep)) fun v => (as.all (fun a => !hot dep a) || plain dep v) = true ∧ K v s := WB_v ft33 rfl as s K
theorem WB34 (s : St) (as : List AV) (K : AV → St → Prop) : WB ft 34 as s K = WV ft 34 (as.map (snap s.mem dep)) fun v => (as.all (fun a => !hot dep a) || plain dep v) = true ∧ K v s := WB_v ft34 rfl as s K
theorem WB35 (s : St) (as : List AV) (K : AV → St → Prop) : WB ft 35 as s K = WV ft 35 (as.map (snap s.mem dep)) fun v => (as.all (fun a => !hot dep a) || plain dep v) = true ∧ K v s := WB_v ft35 rfl as s K
theorem WB36 (s : St) (as : List AV) (K : AV → St → Prop) : WB ft 36 as s K = WV ft 36 (as.map (snap s.mem dep)) fun v => (as.all (fun a => !hot dep a) || plain dep v) = true ∧ K v s := WB_v ft36 rfl as s K
theorem WB37 (s : St) (as : List AV) (K : AV → St → Prop) : WB ft 37 as s K = WV ft 37 (as.map (snap s.mem dep)) fun v => (as.all (fun a => !hot dep a) || plain dep v) = true ∧ K v s := WB_v ft37 rfl as s K
theorem WB38 (s : St) (as : List AV) (K : AV → St → Prop) : WB ft 38 as s K = WV ft 38 (as.map (snap s.mem dep)) fun v => (as.all (fun a => !hot dep a) || plain dep v) = true ∧ K v s := WB_v ft38 rfl as s K
theorem WB39 (s : St) (as : List AV) (K : AV → St → Prop) : WB ft 39 as s K = WV ft 39 (as.map (snap s.mem dep)) fun v => (as.all (fun a => !hot dep a) || plain dep v) = true ∧ K v s := WB_v ft39 rfl as s K
theorem WB40 (s : St) (as : List AV) (K : AV → St → Prop) : WB ft 40 as s K = WV ft 40 (as.map (snap s.mem dep)) fun v => (as.all (fun a => !hot dep a) || plain dep v) = true ∧ K v s := WB_v ft40 rfl as s K
theorem WB41 (s : St) (as : List AV) (K : AV → St → Prop) : WB ft 41 as s K = WV ft 41 (as.map (snap s.mem dep)) fun v => (as.all (fun a => !hot dep a) || plain dep v) = true ∧ K v s := WB_v ft41 rfl as s K
theorem WB42 (s : St) (as : List AV) (K : AV → St → Prop) : WB ft 42 as s K = WV ft 42 (as.map (snap s.mem dep)) fun v => (as.all (fun a => !hot dep a) || plain dep v) = true ∧ K v s := WB_v ft42 rfl as s K
theorem WB43 (s : St) (as : List AV) (K : AV → St → Prop) : WB ft 43 as s K = WV ft 43 (as.map (snap s.mem dep)) fun v => (as.all (fun a => !hot dep a) || plain dep v) = true ∧ K v s := WB_v ft43 rfl as s K
theorem WB44 (s : St) (as : List AV) (K : AV → St → Prop) : WB ft 44 as s K = WV ft 44 (as.map (snap s.mem dep)) fun v => (as.all (fun a => !hot dep a) || plain dep v) = true ∧ K v s := WB_v ft44 rfl as s K
theorem WB45 (s : St) (as : List AV) (K : AV → St → Prop) : WB ft 45 as s K = WV ft 45 (as.map (snap s.mem dep)) fun v => (as.all (fun a => !hot dep a) || plain dep v) = true ∧ K v s := WB_v ft45 rfl as s K
theorem WB46 (s : St) (as : List AV) (K : AV → St → Prop) : WB ft 46 as s K = WV ft 46 (as.map (snap s.mem dep)) fun v => (as.all (fun a => !hot dep a) || plain dep v) = true ∧ K v s := WB_v ft46 rfl as s K
theorem WB47 (s : St) (as : List AV) (K : AV → St → Prop) : WB ft 47 as s K = WV ft 47 (as.map (snap s.mem dep)) fun v => (as.all (fun a => !hot dep a) || plain dep v) = true ∧ K v s := WB_v ft47 rfl as s K
theorem WB48 (s : St) (as : List AV) (K : AV → St → Prop) : WB ft 48 as s K = WV ft 48 (as.map (snap s.mem dep)) fun v => (as.all (fun a => !hot dep a) || plain dep v) = true ∧ K v s := WB_v ft48 rfl as s K
theorem WB49 (s : St) (as : List AV) (K : AV → St → Prop) : WB ft 49 as s K = WV ft 49 (as.map (snap s.mem dep)) fun v => (as.all (fun a => !hot dep a) || plain dep v) = true ∧ K v s := WB_v ft49 rfl as s K
theorem WB50 (s : St) (as : List AV) (K : AV → St → Prop) : WB ft 50 as s K = WV ft 50 (as.map (snap s.mem dep)) fun v => (as.all (fun a => !hot dep a) || plain dep v) = true ∧ K v s := WB_v ft50 rfl as s K
theorem WB51 (s : St) (as : List AV) (K : AV → St → Prop) : WB ft 51 as s K = WV ft 51 (as.map (snap s.mem dep)) fun v => (as.all (fun a => !hot dep a) || plain dep v) = true ∧ K v s := WB_v ft51 rfl as s K
theorem WB52 (s : St) (as : List AV) (K : AV → St → Prop) : WB ft 52 as s K = WV ft 52 (as.map (snap s.mem dep)) fun v => (as.all (fun a => !hot dep a) || plain dep v) = true ∧ K v s := WB_v ft52 rfl as s K
theorem WB53 (s : St) (as : List AV) (K : AV → St → Prop) : WB ft 53 as s K = WV ft 53 (as.map (snap s.mem dep)) fun v => (as.all (fun a => !hot dep a) || plain dep v) = true ∧ K v s := WB_v ft53 rfl as s K
theorem WB54 (s : St) (as : List AV) (K : AV → St → Prop) : WB ft 54 as s K = WV ft 54 (as.map (snap s.mem dep)) fun v => (as.all (fun a => !hot dep a) || plain dep v) = true ∧ K v s := WB_v ft54 rfl as s K
theorem WB55 (s : St) (as : List AV) (K : AV → St → Prop) : WB ft 55 as s K = WV ft 55 (as.map (snap s.mem dep)) fun v => (as.all (fun a => !hot dep a) || plain dep v) = true ∧ K v s := WB_v ft55 rfl as s K
theorem WB56 (s : St) (as : List AV) (K : AV → St → Prop) : WB ft 56 as s K = WV ft 56 (as.map (snap s.mem dep)) fun v => (as.all (fun a => !hot dep a) || plain dep v) = true ∧ K v s := WB_v ft56 rfl as s K
theorem WB57 (s : St) (as : List AV) (K : AV → St → Prop) : WB ft 57 as s K = WV ft 57 (as.map (snap s.mem dep)) fun v => (as.all (fun a => !hot dep a) || plain dep v) = true ∧ K v s := WB_v ft57 rfl as s K
theorem WB58 (s : St) (as : List AV) (K : AV → St → Prop) : WB ft 58 as s K = WV ft 58 (as.map (snap s.mem dep)) fun v => (as.all (fun a => !hot dep a) || plain dep v) = true ∧ K v s := WB_v ft58 rfl as s K
theorem WB59 (s : St) (as : List AV) (K : AV → St → Prop) : WB ft 59 as s K = WV ft 59 (as.map (snap s.mem dep)) fun v => (as.all (fun a => !hot dep a) || plain dep v) = true ∧ K v s := WB_v ft59 rfl as s K
theorem WB60 (s : St) (as : List AV) (K : AV → St → Prop) : WB ft 60 as s K = WV ft 60 (as.map (snap s.mem dep)) fun v => (as.all (fun a => !hot dep a) || plain dep v) = true ∧ K v s := WB_v ft60 rfl as s K
theorem WB61 (s : St) (as : List AV) (K : AV → St → Prop) : WB ft 61 as s K = WV ft 61 (as.map (snap s.mem dep)) fun v => (as.all (fun a => !hot dep a) || plain dep v) = true ∧ K v s := WB_v ft61 rfl as s K
theorem WB62 (s : St) (as : List AV) (K : AV → St → Prop) : WB ft 62 as s K = WV ft 62 (as.map (snap s.mem dep)) fun v => (as.all (fun a => !hot dep a) || plain dep v) = true ∧ K v s := WB_v ft62 rfl as s K
theorem WB63 (s : St) (as : List AV) (K : AV → St → Prop) : WB ft 63 as s K = WV ft 63 (as.map (snap s.mem dep)) fun v => (as.all (fun a => !hot dep a) || plain dep v) = true ∧ K v s := WB_v ft63 rfl as s K
theorem WB64 (s : St) (as : List AV) (K : AV → St → Prop) : WB ft 64 as s K = WV ft 64 (as.map (snap s.mem dep)) fun v => (as.all (fun a => !hot dep a) || plain dep v) = true ∧ K v s := WB_v ft64 rfl as s K
theorem WB65 (s : St) (as : List AV) (K : AV → St → Prop) : WB ft 65 as s K = WV ft 65 (as.map (snap s.mem dep)) fun v => (as.all (fun a => !hot dep a) || plain dep v) = true ∧ K v s := WB_v ft65 rfl as s K
theorem WB66 (s : St) (as : List AV) (K : AV → St → Prop) : WB ft 66 as s K = WV ft 66 (as.map (snap s.mem dep)) fun v => (as.all (fun a => !hot dep a) || plain dep v) = true ∧ K v s := WB_v ft66 rfl as s K
theorem WB67 (s : St) (as : List AV) (K : AV → St → Prop) : WB ft 67 as s K = WV ft 67 (as.map (snap s.mem dep)) fun v => (as.all (fun a => !hot dep a) || plain dep v) = true ∧ K v s := WB_v ft67 rfl as s K
theorem WB68 (s : St) (as : List AV) (K : AV → St → Prop) : WB ft 68 as s K = WV ft 68 (as.map (snap s.mem dep)) fun v => (as.all (fun a => !hot dep a) || plain dep v) = true ∧ K v s := WB_v ft68 rfl as s K
theorem WB69 (s : St) (as : List AV) (K : AV → St → Prop) : WB ft 69 as s K = WV ft 69 (as.map (snap s.mem dep)) fun v => (as.all (fun a => !hot dep a) || plain dep v) = true ∧ K v s := WB_v ft69 rfl as s K
theorem WB70 (s : St) (as : List AV) (K : AV → St → Prop) : WB ft 70 as s K = WV ft 70 (as.map (snap s.mem dep)) fun v => (as.all (fun a => !hot dep a) || plain dep v) = true ∧ K v s := WB_v ft70 rfl as s K
end Go.Ab.T
end
