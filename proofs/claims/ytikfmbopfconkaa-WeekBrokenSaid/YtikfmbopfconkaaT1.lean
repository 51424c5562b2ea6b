/-
  A part of the proofs over this seat.
  (The texts KwT KwW, one behind the other.)
-/
import Derived.Test.YtikfmbopfconkaaA0
set_option linter.unusedSimpArgs false
set_option linter.unusedVariables false
set_option linter.unusedSectionVars false
section
namespace Go.Ab.T
/-- gosem.cut.init -/
def c2 : ACode := .region [⟨some 0, none, .call 1 []⟩]
def r2 : List Res := []
def a2 : AFn := ⟨0, c2, r2, .v⟩

/-- bijou/bijoulaw05.WeekBroken -/
def c3 : ACode := .seq (.region [⟨some 2, none, .box (.t 0) 5⟩,⟨some 4, none, .mov (.c (.bool false))⟩])
 (.seq (.seq (.region [⟨some 15, none, .load (.t 2) (some 5)⟩,⟨some 16, none, .call 11 [(.t 15)]⟩,⟨some 17, none, .mov (.t 16)⟩,⟨some 18, some (17, false), .mov (.t 1)⟩,⟨some 19, some (17, false), .len (.t 18)⟩,⟨some 20, some (17, false), .bin .gtr (.t 19) (.c (.int .i64 40))⟩,⟨some 21, none, .pick (.t 17) (.c (.bool true)) (.t 20)⟩])
 (.cond (.t 21) (.seq (.region [⟨some 22, none, .call 12 []⟩,⟨some 4, none, .mov (.t 22)⟩])
 (.ret))
 (.skip)))
 (.seq (.region [⟨some 23, none, .load (.t 2) (some 5)⟩,⟨some 24, none, .callf 13 [(.t 23)]⟩,⟨some 25, none, .lit false 3 1 []⟩,⟨some 26, none, .mov (.t 1)⟩,⟨some 27, none, .app false (.t 25) (.t 26) 3 1 8⟩,⟨some 5, none, .new (.agg [(.int .i64 0), (.sl [] .tight), (.int .i64 0), (.sl [] .tight), (.sl [] .tight)]) 5⟩,⟨none, none, .store (.t 5) (.t 24) 5⟩,⟨some 6, none, .mov (.t 27)⟩])
 (.seq (.seq (.region [⟨some 28, none, .load (.t 5) (some 5)⟩,⟨some 29, none, .call 14 [(.t 28)]⟩,⟨some 30, none, .load (.t 2) (some 5)⟩,⟨some 31, none, .call 15 [(.t 30)]⟩,⟨some 32, none, .bin .neq (.t 29) (.t 31)⟩])
 (.cond (.t 32) (.seq (.region [⟨some 4, none, .mov (.c (.bool false))⟩])
 (.ret))
 (.skip)))
 (.seq (.region [⟨some 34, none, .load (.t 5) (some 5)⟩,⟨some 35, none, .mov (.t 6)⟩,⟨some 36, none, .call 16 [(.t 34), (.t 35)]⟩,⟨some 33, none, .mov (.t 36)⟩,⟨some 37, none, .ext (.t 33) 0⟩,⟨some 38, none, .ext (.t 33) 1⟩,⟨some 7, none, .mov (.t 37)⟩,⟨some 8, none, .mov (.t 38)⟩])
 (.seq (.region [⟨some 40, none, .load (.t 2) (some 5)⟩,⟨some 41, none, .mov (.t 1)⟩,⟨some 42, none, .call 17 [(.t 40), (.t 41)]⟩,⟨some 39, none, .mov (.t 42)⟩,⟨some 43, none, .ext (.t 39) 0⟩,⟨some 44, none, .ext (.t 39) 1⟩,⟨some 9, none, .mov (.t 43)⟩,⟨some 10, none, .mov (.t 44)⟩])
 (.seq (.region [⟨some 46, none, .load (.t 5) (some 5)⟩,⟨some 47, none, .mov (.t 6)⟩,⟨some 48, none, .call 18 [(.t 46), (.t 47)]⟩,⟨some 45, none, .mov (.t 48)⟩,⟨some 49, none, .ext (.t 45) 0⟩,⟨some 50, none, .ext (.t 45) 1⟩,⟨some 11, none, .mov (.t 49)⟩,⟨some 12, none, .mov (.t 50)⟩])
 (.seq (.region [⟨some 52, none, .load (.t 2) (some 5)⟩,⟨some 53, none, .mov (.t 1)⟩,⟨some 54, none, .call 19 [(.t 52), (.t 53)]⟩,⟨some 51, none, .mov (.t 54)⟩,⟨some 55, none, .ext (.t 51) 0⟩,⟨some 56, none, .ext (.t 51) 1⟩,⟨some 13, none, .mov (.t 55)⟩,⟨some 14, none, .mov (.t 56)⟩])
 (.seq (.region [⟨some 57, none, .mov (.t 7)⟩,⟨some 58, none, .mov (.t 9)⟩,⟨some 59, none, .call 20 [(.t 57), (.t 58)]⟩,⟨some 60, none, .mov (.t 59)⟩,⟨some 61, some (60, true), .mov (.t 8)⟩,⟨some 62, some (60, true), .mov (.t 10)⟩,⟨some 63, some (60, true), .bin .eql (.t 61) (.t 62)⟩,⟨some 64, none, .pick (.t 60) (.t 63) (.c (.bool false))⟩,⟨some 65, none, .mov (.t 64)⟩,⟨some 66, some (65, true), .mov (.t 11)⟩,⟨some 67, some (65, true), .mov (.t 13)⟩,⟨some 68, some (65, true), .bin .eql (.t 66) (.t 67)⟩,⟨some 69, none, .pick (.t 65) (.t 68) (.c (.bool false))⟩,⟨some 70, none, .mov (.t 69)⟩,⟨some 71, some (70, true), .mov (.t 12)⟩,⟨some 72, some (70, true), .mov (.t 14)⟩,⟨some 73, some (70, true), .bin .eql (.t 71) (.t 72)⟩,⟨some 74, none, .pick (.t 70) (.t 73) (.c (.bool false))⟩,⟨some 75, none, .mov (.t 74)⟩,⟨some 76, some (75, true), .mov (.t 6)⟩,⟨some 77, some (75, true), .mov (.t 1)⟩,⟨some 78, some (75, true), .call 20 [(.t 76), (.t 77)]⟩,⟨some 79, none, .pick (.t 75) (.t 78) (.c (.bool false))⟩,⟨some 80, none, .mov (.t 79)⟩,⟨some 81, some (80, true), .addr (.t 5) 1⟩,⟨some 82, some (80, true), .load (.t 81) none⟩,⟨some 83, some (80, true), .addr (.t 2) 1⟩,⟨some 84, some (80, true), .load (.t 83) none⟩,⟨some 85, some (80, true), .call 20 [(.t 82), (.t 84)]⟩,⟨some 86, none, .pick (.t 80) (.t 85) (.c (.bool false))⟩,⟨some 87, none, .mov (.t 86)⟩,⟨some 88, some (87, true), .call 12 []⟩,⟨some 89, none, .pick (.t 87) (.t 88) (.c (.bool false))⟩,⟨some 4, none, .mov (.t 89)⟩])
 (.ret)))))))))
def r3 : List Res := [.t 4]
def a3 : AFn := ⟨2, c3, r3, .v⟩

/-- bijou/bijoulaw05.WeekMost -/
def c4 : ACode := .seq (.region [⟨some 2, none, .box (.t 0) 5⟩,⟨some 4, none, .mov (.c (.bool false))⟩])
 (.seq (.seq (.region [⟨some 18, none, .load (.t 2) (some 5)⟩,⟨some 19, none, .call 11 [(.t 18)]⟩,⟨some 20, none, .mov (.t 19)⟩,⟨some 21, some (20, false), .load (.t 2) (some 5)⟩,⟨some 22, some (20, false), .call 21 [(.t 21)]⟩,⟨some 23, none, .pick (.t 20) (.c (.bool true)) (.t 22)⟩])
 (.cond (.t 23) (.seq (.region [⟨some 24, none, .call 12 []⟩,⟨some 4, none, .mov (.t 24)⟩])
 (.ret))
 (.skip)))
 (.seq (.region [⟨some 25, none, .load (.t 2) (some 5)⟩,⟨some 26, none, .callf 13 [(.t 25)]⟩,⟨some 5, none, .new (.agg [(.int .i64 0), (.sl [] .tight), (.int .i64 0), (.sl [] .tight), (.sl [] .tight)]) 5⟩,⟨none, none, .store (.t 5) (.t 26) 5⟩])
 (.seq (.region [⟨some 28, none, .load (.t 5) (some 5)⟩,⟨some 29, none, .call 22 [(.t 28)]⟩,⟨some 27, none, .mov (.t 29)⟩,⟨some 30, none, .ext (.t 27) 0⟩,⟨some 31, none, .ext (.t 27) 1⟩,⟨some 6, none, .mov (.t 30)⟩,⟨some 7, none, .mov (.t 31)⟩])
 (.seq (.region [⟨some 33, none, .load (.t 2) (some 5)⟩,⟨some 34, none, .call 23 [(.t 33)]⟩,⟨some 32, none, .mov (.t 34)⟩,⟨some 35, none, .ext (.t 32) 0⟩,⟨some 36, none, .ext (.t 32) 1⟩,⟨some 8, none, .mov (.t 35)⟩,⟨some 9, none, .mov (.t 36)⟩])
 (.seq (.region [⟨some 38, none, .load (.t 5) (some 5)⟩,⟨some 39, none, .call 24 [(.t 38)]⟩,⟨some 37, none, .mov (.t 39)⟩,⟨some 40, none, .ext (.t 37) 0⟩,⟨some 41, none, .ext (.t 37) 1⟩,⟨some 10, none, .mov (.t 40)⟩,⟨some 11, none, .mov (.t 41)⟩])
 (.seq (.region [⟨some 43, none, .load (.t 2) (some 5)⟩,⟨some 44, none, .call 25 [(.t 43)]⟩,⟨some 42, none, .mov (.t 44)⟩,⟨some 45, none, .ext (.t 42) 0⟩,⟨some 46, none, .ext (.t 42) 1⟩,⟨some 12, none, .mov (.t 45)⟩,⟨some 13, none, .mov (.t 46)⟩])
 (.seq (.region [⟨some 48, none, .load (.t 5) (some 5)⟩,⟨some 49, none, .mov (.t 1)⟩,⟨some 50, none, .call 26 [(.t 48), (.t 49)]⟩,⟨some 47, none, .mov (.t 50)⟩,⟨some 51, none, .ext (.t 47) 0⟩,⟨some 52, none, .ext (.t 47) 1⟩,⟨some 14, none, .mov (.t 51)⟩,⟨some 15, none, .mov (.t 52)⟩])
 (.seq (.region [⟨some 54, none, .load (.t 2) (some 5)⟩,⟨some 55, none, .mov (.t 1)⟩,⟨some 56, none, .call 27 [(.t 54), (.t 55)]⟩,⟨some 53, none, .mov (.t 56)⟩,⟨some 57, none, .ext (.t 53) 0⟩,⟨some 58, none, .ext (.t 53) 1⟩,⟨some 16, none, .mov (.t 57)⟩,⟨some 17, none, .mov (.t 58)⟩])
 (.seq (.region [⟨some 59, none, .mov (.t 6)⟩,⟨some 60, none, .mov (.t 8)⟩,⟨some 61, none, .bin .eql (.t 59) (.t 60)⟩,⟨some 62, none, .mov (.t 61)⟩,⟨some 63, some (62, true), .mov (.t 7)⟩,⟨some 64, some (62, true), .mov (.t 9)⟩,⟨some 65, some (62, true), .bin .eql (.t 63) (.t 64)⟩,⟨some 66, none, .pick (.t 62) (.t 65) (.c (.bool false))⟩,⟨some 67, none, .mov (.t 66)⟩,⟨some 68, some (67, true), .mov (.t 10)⟩,⟨some 69, some (67, true), .mov (.t 12)⟩,⟨some 70, some (67, true), .call 20 [(.t 68), (.t 69)]⟩,⟨some 71, none, .pick (.t 67) (.t 70) (.c (.bool false))⟩,⟨some 72, none, .mov (.t 71)⟩,⟨some 73, some (72, true), .mov (.t 11)⟩,⟨some 74, some (72, true), .mov (.t 13)⟩,⟨some 75, some (72, true), .bin .eql (.t 73) (.t 74)⟩,⟨some 76, none, .pick (.t 72) (.t 75) (.c (.bool false))⟩,⟨some 77, none, .mov (.t 76)⟩,⟨some 78, some (77, true), .mov (.t 14)⟩,⟨some 79, some (77, true), .mov (.t 16)⟩,⟨some 80, some (77, true), .bin .eql (.t 78) (.t 79)⟩,⟨some 81, none, .pick (.t 77) (.t 80) (.c (.bool false))⟩,⟨some 82, none, .mov (.t 81)⟩,⟨some 83, some (82, true), .mov (.t 15)⟩,⟨some 84, some (82, true), .mov (.t 17)⟩,⟨some 85, some (82, true), .bin .eql (.t 83) (.t 84)⟩,⟨some 86, none, .pick (.t 82) (.t 85) (.c (.bool false))⟩,⟨some 87, none, .mov (.t 86)⟩,⟨some 88, some (87, true), .call 12 []⟩,⟨some 89, none, .pick (.t 87) (.t 88) (.c (.bool false))⟩,⟨some 4, none, .mov (.t 89)⟩])
 (.ret))))))))))
def r4 : List Res := [.t 4]
def a4 : AFn := ⟨2, c4, r4, .v⟩

/-- bijou/bijoulaw05.WeekBest -/
def c5 : ACode := .seq (.region [⟨some 1, none, .box (.t 0) 5⟩,⟨some 2, none, .mov (.c (.bool false))⟩])
 (.seq (.seq (.region [⟨some 11, none, .load (.t 1) (some 5)⟩,⟨some 12, none, .call 11 [(.t 11)]⟩,⟨some 13, none, .mov (.t 12)⟩,⟨some 14, some (13, false), .load (.t 1) (some 5)⟩,⟨some 15, some (13, false), .call 21 [(.t 14)]⟩,⟨some 16, none, .pick (.t 13) (.c (.bool true)) (.t 15)⟩])
 (.cond (.t 16) (.seq (.region [⟨some 17, none, .call 12 []⟩,⟨some 2, none, .mov (.t 17)⟩])
 (.ret))
 (.skip)))
 (.seq (.region [⟨some 19, none, .load (.t 1) (some 5)⟩,⟨some 20, none, .callf 13 [(.t 19)]⟩,⟨some 21, none, .call 28 [(.t 20)]⟩,⟨some 18, none, .mov (.t 21)⟩,⟨some 22, none, .ext (.t 18) 0⟩,⟨some 23, none, .ext (.t 18) 1⟩,⟨some 3, none, .mov (.t 22)⟩,⟨some 4, none, .mov (.t 23)⟩])
 (.seq (.region [⟨some 25, none, .load (.t 1) (some 5)⟩,⟨some 26, none, .call 23 [(.t 25)]⟩,⟨some 24, none, .mov (.t 26)⟩,⟨some 27, none, .ext (.t 24) 0⟩,⟨some 28, none, .ext (.t 24) 1⟩,⟨some 5, none, .mov (.t 27)⟩,⟨some 6, none, .mov (.t 28)⟩])
 (.seq (.seq (.region [⟨some 29, none, .mov (.t 4)⟩,⟨some 30, none, .mov (.t 6)⟩,⟨some 31, none, .bin .neq (.t 29) (.t 30)⟩,⟨some 32, none, .mov (.t 31)⟩,⟨some 33, some (32, false), .mov (.t 4)⟩,⟨some 34, some (32, false), .bin .neq (.t 33) (.c (.int .i64 0))⟩,⟨some 35, some (32, false), .mov (.t 34)⟩,⟨some 36, some (35, true), .mov (.t 3)⟩,⟨some 37, some (35, true), .len (.t 36)⟩,⟨some 38, some (35, true), .bin .gtr (.t 37) (.c (.int .i64 0))⟩,⟨some 39, some (32, false), .pick (.t 35) (.t 38) (.c (.bool false))⟩,⟨some 40, none, .pick (.t 32) (.c (.bool true)) (.t 39)⟩])
 (.cond (.t 40) (.seq (.region [⟨some 2, none, .mov (.c (.bool false))⟩])
 (.ret))
 (.skip)))
 (.seq (.seq (.region [⟨some 41, none, .mov (.t 4)⟩,⟨some 42, none, .bin .neq (.t 41) (.c (.int .i64 0))⟩])
 (.cond (.t 42) (.seq (.region [⟨some 43, none, .call 12 []⟩,⟨some 2, none, .mov (.t 43)⟩])
 (.ret))
 (.skip)))
 (.seq (.seq (.region [⟨some 44, none, .mov (.t 3)⟩,⟨some 45, none, .len (.t 44)⟩,⟨some 46, none, .bin .gtr (.t 45) (.c (.int .i64 40))⟩,⟨some 47, none, .mov (.t 46)⟩,⟨some 48, some (47, false), .load (.t 1) (some 5)⟩,⟨some 49, some (47, false), .mov (.t 3)⟩,⟨some 50, some (47, false), .call 29 [(.t 48), (.t 49)]⟩,⟨some 51, some (47, false), .not (.t 50)⟩,⟨some 52, none, .pick (.t 47) (.c (.bool true)) (.t 51)⟩])
 (.cond (.t 52) (.seq (.region [⟨some 2, none, .mov (.c (.bool false))⟩])
 (.ret))
 (.skip)))
 (.seq (.region [⟨some 54, none, .load (.t 1) (some 5)⟩,⟨some 55, none, .mov (.t 3)⟩,⟨some 56, none, .call 17 [(.t 54), (.t 55)]⟩,⟨some 53, none, .mov (.t 56)⟩,⟨some 57, none, .ext (.t 53) 0⟩,⟨some 58, none, .ext (.t 53) 1⟩,⟨some 7, none, .mov (.t 57)⟩,⟨some 8, none, .mov (.t 58)⟩])
 (.seq (.region [⟨some 60, none, .load (.t 1) (some 5)⟩,⟨some 61, none, .mov (.t 3)⟩,⟨some 62, none, .call 19 [(.t 60), (.t 61)]⟩,⟨some 59, none, .mov (.t 62)⟩,⟨some 63, none, .ext (.t 59) 0⟩,⟨some 64, none, .ext (.t 59) 1⟩,⟨some 9, none, .mov (.t 63)⟩,⟨some 10, none, .mov (.t 64)⟩])
 (.seq (.region [⟨some 65, none, .mov (.t 8)⟩,⟨some 66, none, .bin .eql (.t 65) (.c (.int .i64 0))⟩,⟨some 67, none, .mov (.t 66)⟩,⟨some 68, some (67, true), .mov (.t 10)⟩,⟨some 69, some (67, true), .bin .eql (.t 68) (.c (.int .i64 0))⟩,⟨some 70, none, .pick (.t 67) (.t 69) (.c (.bool false))⟩,⟨some 71, none, .mov (.t 70)⟩,⟨some 72, some (71, true), .mov (.t 7)⟩,⟨some 73, some (71, true), .len (.t 72)⟩,⟨some 74, some (71, true), .bin .eql (.t 73) (.c (.int .i64 0))⟩,⟨some 75, none, .pick (.t 71) (.t 74) (.c (.bool false))⟩,⟨some 76, none, .mov (.t 75)⟩,⟨some 77, some (76, true), .mov (.t 9)⟩,⟨some 78, some (76, true), .mov (.t 5)⟩,⟨some 79, some (76, true), .bin .eql (.t 77) (.t 78)⟩,⟨some 80, none, .pick (.t 76) (.t 79) (.c (.bool false))⟩,⟨some 81, none, .mov (.t 80)⟩,⟨some 82, some (81, true), .call 12 []⟩,⟨some 83, none, .pick (.t 81) (.t 82) (.c (.bool false))⟩,⟨some 2, none, .mov (.t 83)⟩])
 (.ret))))))))))
def r5 : List Res := [.t 2]
def a5 : AFn := ⟨1, c5, r5, .v⟩

/-- bijou/bijoulaw05.WeekProof -/
def c6 : ACode := .seq (.region [⟨some 2, none, .box (.t 0) 5⟩,⟨some 4, none, .mov (.c (.bool false))⟩])
 (.seq (.seq (.region [⟨some 17, none, .load (.t 2) (some 5)⟩,⟨some 18, none, .call 30 [(.t 17)]⟩,⟨some 19, none, .not (.t 18)⟩,⟨some 20, none, .mov (.t 19)⟩,⟨some 21, some (20, false), .load (.t 2) (some 5)⟩,⟨some 22, some (20, false), .mov (.t 1)⟩,⟨some 23, some (20, false), .call 29 [(.t 21), (.t 22)]⟩,⟨some 24, some (20, false), .not (.t 23)⟩,⟨some 25, none, .pick (.t 20) (.c (.bool true)) (.t 24)⟩])
 (.cond (.t 25) (.seq (.region [⟨some 26, none, .call 12 []⟩,⟨some 4, none, .mov (.t 26)⟩])
 (.ret))
 (.skip)))
 (.seq (.region [⟨some 28, none, .load (.t 2) (some 5)⟩,⟨some 29, none, .call 22 [(.t 28)]⟩,⟨some 27, none, .mov (.t 29)⟩,⟨some 30, none, .ext (.t 27) 0⟩,⟨some 31, none, .ext (.t 27) 1⟩,⟨some 5, none, .mov (.t 30)⟩,⟨some 6, none, .mov (.t 31)⟩])
 (.seq (.region [⟨some 33, none, .load (.t 2) (some 5)⟩,⟨some 34, none, .call 28 [(.t 33)]⟩,⟨some 32, none, .mov (.t 34)⟩,⟨some 35, none, .ext (.t 32) 0⟩,⟨some 36, none, .ext (.t 32) 1⟩,⟨some 7, none, .mov (.t 35)⟩,⟨some 8, none, .mov (.t 36)⟩])
 (.seq (.region [⟨some 38, none, .load (.t 2) (some 5)⟩,⟨some 39, none, .mov (.t 1)⟩,⟨some 40, none, .call 16 [(.t 38), (.t 39)]⟩,⟨some 37, none, .mov (.t 40)⟩,⟨some 41, none, .ext (.t 37) 0⟩,⟨some 42, none, .ext (.t 37) 1⟩,⟨some 9, none, .mov (.t 41)⟩,⟨some 10, none, .mov (.t 42)⟩])
 (.seq (.region [⟨some 44, none, .load (.t 2) (some 5)⟩,⟨some 45, none, .mov (.t 1)⟩,⟨some 46, none, .call 18 [(.t 44), (.t 45)]⟩,⟨some 43, none, .mov (.t 46)⟩,⟨some 47, none, .ext (.t 43) 0⟩,⟨some 48, none, .ext (.t 43) 1⟩,⟨some 11, none, .mov (.t 47)⟩,⟨some 12, none, .mov (.t 48)⟩])
 (.seq (.seq (.region [⟨some 49, none, .mov (.t 6)⟩,⟨some 50, none, .mov (.t 8)⟩,⟨some 51, none, .bin .neq (.t 49) (.t 50)⟩,⟨some 52, none, .mov (.t 51)⟩,⟨some 53, some (52, false), .mov (.t 10)⟩,⟨some 54, some (52, false), .bin .neq (.t 53) (.c (.int .i64 0))⟩,⟨some 55, none, .pick (.t 52) (.c (.bool true)) (.t 54)⟩,⟨some 56, none, .mov (.t 55)⟩,⟨some 57, some (56, false), .mov (.t 12)⟩,⟨some 58, some (56, false), .bin .neq (.t 57) (.c (.int .i64 0))⟩,⟨some 59, none, .pick (.t 56) (.c (.bool true)) (.t 58)⟩,⟨some 60, none, .mov (.t 59)⟩,⟨some 61, some (60, false), .mov (.t 11)⟩,⟨some 62, some (60, false), .bin .lss (.t 61) (.c (.int .i64 0))⟩,⟨some 63, none, .pick (.t 60) (.c (.bool true)) (.t 62)⟩])
 (.cond (.t 63) (.seq (.region [⟨some 4, none, .mov (.c (.bool false))⟩])
 (.ret))
 (.skip)))
 (.seq (.seq (.region [⟨some 64, none, .mov (.t 6)⟩,⟨some 65, none, .bin .eql (.t 64) (.c (.int .i64 3))⟩])
 (.cond (.t 65) (.seq (.region [⟨some 66, none, .mov (.t 9)⟩,⟨some 67, none, .len (.t 66)⟩,⟨some 68, none, .bin .gtr (.t 67) (.c (.int .i64 0))⟩,⟨some 69, none, .mov (.t 68)⟩,⟨some 70, some (69, true), .call 12 []⟩,⟨some 71, none, .pick (.t 69) (.t 70) (.c (.bool false))⟩,⟨some 4, none, .mov (.t 71)⟩])
 (.ret))
 (.skip)))
 (.seq (.seq (.region [⟨some 72, none, .mov (.t 6)⟩,⟨some 73, none, .bin .neq (.t 72) (.c (.int .i64 0))⟩,⟨some 74, none, .mov (.t 73)⟩,⟨some 75, some (74, false), .load (.t 2) (some 5)⟩,⟨some 76, some (74, false), .mov (.t 7)⟩,⟨some 77, some (74, false), .call 29 [(.t 75), (.t 76)]⟩,⟨some 78, some (74, false), .not (.t 77)⟩,⟨some 79, none, .pick (.t 74) (.c (.bool true)) (.t 78)⟩,⟨some 80, none, .mov (.t 79)⟩,⟨some 81, some (80, false), .mov (.t 9)⟩,⟨some 82, some (80, false), .len (.t 81)⟩,⟨some 83, some (80, false), .bin .eql (.t 82) (.c (.int .i64 0))⟩,⟨some 84, some (80, false), .mov (.t 83)⟩,⟨some 85, some (84, true), .mov (.t 11)⟩,⟨some 86, some (84, true), .mov (.t 5)⟩,⟨some 87, some (84, true), .bin .gtr (.t 85) (.t 86)⟩,⟨some 88, some (80, false), .pick (.t 84) (.t 87) (.c (.bool false))⟩,⟨some 89, none, .pick (.t 80) (.c (.bool true)) (.t 88)⟩])
 (.cond (.t 89) (.seq (.region [⟨some 4, none, .mov (.c (.bool false))⟩])
 (.ret))
 (.skip)))
 (.seq (.region [⟨some 91, none, .load (.t 2) (some 5)⟩,⟨some 92, none, .mov (.t 7)⟩,⟨some 93, none, .call 16 [(.t 91), (.t 92)]⟩,⟨some 90, none, .mov (.t 93)⟩,⟨some 94, none, .ext (.t 90) 0⟩,⟨some 95, none, .ext (.t 90) 1⟩,⟨some 13, none, .mov (.t 94)⟩,⟨some 14, none, .mov (.t 95)⟩])
 (.seq (.region [⟨some 97, none, .load (.t 2) (some 5)⟩,⟨some 98, none, .mov (.t 7)⟩,⟨some 99, none, .call 18 [(.t 97), (.t 98)]⟩,⟨some 96, none, .mov (.t 99)⟩,⟨some 100, none, .ext (.t 96) 0⟩,⟨some 101, none, .ext (.t 96) 1⟩,⟨some 15, none, .mov (.t 100)⟩,⟨some 16, none, .mov (.t 101)⟩])
 (.seq (.region [⟨some 102, none, .mov (.t 14)⟩,⟨some 103, none, .bin .eql (.t 102) (.c (.int .i64 0))⟩,⟨some 104, none, .mov (.t 103)⟩,⟨some 105, some (104, true), .mov (.t 16)⟩,⟨some 106, some (104, true), .bin .eql (.t 105) (.c (.int .i64 0))⟩,⟨some 107, none, .pick (.t 104) (.t 106) (.c (.bool false))⟩,⟨some 108, none, .mov (.t 107)⟩,⟨some 109, some (108, true), .mov (.t 13)⟩,⟨some 110, some (108, true), .len (.t 109)⟩,⟨some 111, some (108, true), .bin .eql (.t 110) (.c (.int .i64 0))⟩,⟨some 112, none, .pick (.t 108) (.t 111) (.c (.bool false))⟩,⟨some 113, none, .mov (.t 112)⟩,⟨some 114, some (113, true), .mov (.t 15)⟩,⟨some 115, some (113, true), .mov (.t 5)⟩,⟨some 116, some (113, true), .bin .eql (.t 114) (.t 115)⟩,⟨some 117, none, .pick (.t 113) (.t 116) (.c (.bool false))⟩,⟨some 118, none, .mov (.t 117)⟩,⟨some 119, some (118, true), .call 12 []⟩,⟨some 120, none, .pick (.t 118) (.t 119) (.c (.bool false))⟩,⟨some 4, none, .mov (.t 120)⟩])
 (.ret))))))))))))
def r6 : List Res := [.t 4]
def a6 : AFn := ⟨2, c6, r6, .v⟩

/-- bijou/bijoulaw05.WeekNamed -/
def c7 : ACode := .seq (.region [⟨some 2, none, .box (.t 0) 5⟩,⟨some 4, none, .mov (.c (.bool false))⟩])
 (.seq (.seq (.region [⟨some 19, none, .load (.t 2) (some 5)⟩,⟨some 20, none, .call 30 [(.t 19)]⟩,⟨some 21, none, .not (.t 20)⟩])
 (.cond (.t 21) (.seq (.region [⟨some 22, none, .call 12 []⟩,⟨some 4, none, .mov (.t 22)⟩])
 (.ret))
 (.skip)))
 (.seq (.region [⟨some 24, none, .load (.t 2) (some 5)⟩,⟨some 25, none, .call 24 [(.t 24)]⟩,⟨some 23, none, .mov (.t 25)⟩,⟨some 26, none, .ext (.t 23) 0⟩,⟨some 27, none, .ext (.t 23) 1⟩,⟨some 5, none, .mov (.t 26)⟩,⟨some 6, none, .mov (.t 27)⟩])
 (.seq (.region [⟨some 29, none, .load (.t 2) (some 5)⟩,⟨some 30, none, .call 22 [(.t 29)]⟩,⟨some 28, none, .mov (.t 30)⟩,⟨some 31, none, .ext (.t 28) 0⟩,⟨some 32, none, .ext (.t 28) 1⟩,⟨some 7, none, .mov (.t 31)⟩,⟨some 8, none, .mov (.t 32)⟩])
 (.seq (.seq (.region [⟨some 33, none, .mov (.t 6)⟩,⟨some 34, none, .bin .eql (.t 33) (.c (.int .i64 3))⟩])
 (.cond (.t 34) (.seq (.region [⟨some 35, none, .mov (.t 8)⟩,⟨some 36, none, .bin .eql (.t 35) (.c (.int .i64 0))⟩,⟨some 37, none, .mov (.t 36)⟩,⟨some 38, some (37, true), .mov (.t 5)⟩,⟨some 39, some (37, true), .len (.t 38)⟩,⟨some 40, some (37, true), .bin .eql (.t 39) (.c (.int .i64 0))⟩,⟨some 41, none, .pick (.t 37) (.t 40) (.c (.bool false))⟩,⟨some 42, none, .mov (.t 41)⟩,⟨some 43, some (42, true), .call 12 []⟩,⟨some 44, none, .pick (.t 42) (.t 43) (.c (.bool false))⟩,⟨some 4, none, .mov (.t 44)⟩])
 (.ret))
 (.skip)))
 (.seq (.seq (.region [⟨some 45, none, .mov (.t 6)⟩,⟨some 46, none, .bin .neq (.t 45) (.c (.int .i64 0))⟩,⟨some 47, none, .mov (.t 46)⟩,⟨some 48, some (47, false), .mov (.t 8)⟩,⟨some 49, some (47, false), .bin .neq (.t 48) (.c (.int .i64 3))⟩,⟨some 50, none, .pick (.t 47) (.c (.bool true)) (.t 49)⟩,⟨some 51, none, .mov (.t 50)⟩,⟨some 52, some (51, false), .mov (.t 5)⟩,⟨some 53, some (51, false), .len (.t 52)⟩,⟨some 54, some (51, false), .bin .eql (.t 53) (.c (.int .i64 0))⟩,⟨some 55, none, .pick (.t 51) (.c (.bool true)) (.t 54)⟩,⟨some 56, none, .mov (.t 55)⟩,⟨some 57, some (56, false), .mov (.t 5)⟩,⟨some 58, some (56, false), .len (.t 57)⟩,⟨some 59, some (56, false), .addr (.t 2) 4⟩,⟨some 60, some (56, false), .load (.t 59) none⟩,⟨some 61, some (56, false), .len (.t 60)⟩,⟨some 62, some (56, false), .bin .gtr (.t 58) (.t 61)⟩,⟨some 63, none, .pick (.t 56) (.c (.bool true)) (.t 62)⟩])
 (.cond (.t 63) (.seq (.region [⟨some 4, none, .mov (.c (.bool false))⟩])
 (.ret))
 (.skip)))
 (.seq (.seq (.region [⟨some 9, none, .mov (.c (.int .i64 0))⟩])
 (.block 0 (.loop (.seq (.seq (.region [⟨some 64, none, .mov (.t 9)⟩,⟨some 65, none, .mov (.t 5)⟩,⟨some 66, none, .len (.t 65)⟩,⟨some 67, none, .bin .lss (.t 64) (.t 66)⟩])
 (.cond (.t 67) (.skip)
 (.exit 0)))
 (.seq (.block 1 (.seq (.region [⟨some 70, none, .mov (.t 5)⟩,⟨some 71, none, .mov (.t 9)⟩,⟨some 72, none, .idx (.t 70) (.t 71) 1⟩,⟨some 73, none, .load (.t 72) none⟩,⟨some 74, none, .bin .lss (.t 73) (.c (.int .i64 0))⟩,⟨some 75, none, .mov (.t 74)⟩,⟨some 76, some (75, false), .mov (.t 5)⟩,⟨some 77, some (75, false), .mov (.t 9)⟩,⟨some 78, some (75, false), .idx (.t 76) (.t 77) 1⟩,⟨some 79, some (75, false), .load (.t 78) none⟩,⟨some 80, some (75, false), .addr (.t 2) 4⟩,⟨some 81, some (75, false), .load (.t 80) none⟩,⟨some 82, some (75, false), .len (.t 81)⟩,⟨some 83, some (75, false), .bin .geq (.t 79) (.t 82)⟩,⟨some 84, none, .pick (.t 75) (.c (.bool true)) (.t 83)⟩,⟨some 85, none, .mov (.t 84)⟩,⟨some 86, some (85, false), .mov (.t 9)⟩,⟨some 87, some (85, false), .bin .gtr (.t 86) (.c (.int .i64 0))⟩,⟨some 88, some (85, false), .mov (.t 87)⟩,⟨some 89, some (88, true), .mov (.t 5)⟩,⟨some 90, some (88, true), .mov (.t 9)⟩,⟨some 91, some (88, true), .idx (.t 89) (.t 90) 1⟩,⟨some 92, some (88, true), .load (.t 91) none⟩,⟨some 93, some (88, true), .mov (.t 5)⟩,⟨some 94, some (88, true), .mov (.t 9)⟩,⟨some 95, some (88, true), .bin .sub (.t 94) (.c (.int .i64 1))⟩,⟨some 96, some (88, true), .idx (.t 93) (.t 95) 1⟩,⟨some 97, some (88, true), .load (.t 96) none⟩,⟨some 98, some (88, true), .bin .leq (.t 92) (.t 97)⟩,⟨some 99, some (85, false), .pick (.t 88) (.t 98) (.c (.bool false))⟩,⟨some 100, none, .pick (.t 85) (.c (.bool true)) (.t 99)⟩])
 (.cond (.t 100) (.seq (.region [⟨some 4, none, .mov (.c (.bool false))⟩])
 (.ret))
 (.skip))))
 (.region [⟨some 68, none, .mov (.t 9)⟩,⟨some 69, none, .bin .add (.t 68) (.c (.int .i64 1))⟩,⟨some 9, none, .mov (.t 69)⟩]))))))
 (.seq (.seq (.region [⟨some 102, none, .load (.t 2) (some 5)⟩,⟨some 103, none, .mov (.t 5)⟩,⟨some 104, none, .call 31 [(.t 102), (.t 103)]⟩,⟨some 105, none, .call 22 [(.t 104)]⟩,⟨some 101, none, .mov (.t 105)⟩,⟨some 106, none, .ext (.t 101) 0⟩,⟨some 107, none, .ext (.t 101) 1⟩,⟨some 10, none, .mov (.t 106)⟩,⟨some 11, none, .mov (.t 107)⟩])
 (.seq (.region [⟨some 108, none, .mov (.t 11)⟩,⟨some 109, none, .bin .neq (.t 108) (.c (.int .i64 3))⟩])
 (.cond (.t 109) (.seq (.region [⟨some 4, none, .mov (.c (.bool false))⟩])
 (.ret))
 (.skip))))
 (.seq (.seq (.region [⟨some 12, none, .mov (.c (.int .i64 0))⟩])
 (.block 2 (.loop (.seq (.seq (.region [⟨some 110, none, .mov (.t 12)⟩,⟨some 111, none, .mov (.t 5)⟩,⟨some 112, none, .len (.t 111)⟩,⟨some 113, none, .bin .lss (.t 110) (.t 112)⟩])
 (.cond (.t 113) (.skip)
 (.exit 2)))
 (.seq (.block 3 (.seq (.regionD [⟨some 117, none, .load (.t 2) (some 5)⟩,⟨some 118, none, .lit false 3 1 []⟩,⟨some 119, none, .mov (.t 5)⟩,⟨some 120, none, .mov (.t 12)⟩,⟨some 121, none, .slice (.t 119) none (some (.t 120)) 1⟩,⟨some 123, none, .mov (.t 5)⟩,⟨some 124, none, .mov (.t 12)⟩,⟨some 125, none, .bin .add (.t 124) (.c (.int .i64 1))⟩,⟨some 126, none, .slice (.t 123) (some (.t 125)) none 1⟩,⟨some 122, none, .app0 (.t 118) (.t 121) 3 1 8⟩,⟨some 127, none, .app true (.t 122) (.t 126) 3 1 8⟩,⟨some 128, none, .call 31 [(.t 117), (.t 127)]⟩,⟨some 129, none, .call 22 [(.t 128)]⟩,⟨some 116, none, .mov (.t 129)⟩,⟨some 130, none, .ext (.t 116) 0⟩,⟨some 131, none, .ext (.t 116) 1⟩,⟨some 13, none, .mov (.t 130)⟩,⟨some 14, none, .mov (.t 131)⟩] [(2, 122)])
 (.seq (.region [⟨some 132, none, .mov (.t 14)⟩,⟨some 133, none, .bin .neq (.t 132) (.c (.int .i64 0))⟩])
 (.cond (.t 133) (.seq (.region [⟨some 4, none, .mov (.c (.bool false))⟩])
 (.ret))
 (.skip)))))
 (.region [⟨some 114, none, .mov (.t 12)⟩,⟨some 115, none, .bin .add (.t 114) (.c (.int .i64 1))⟩,⟨some 12, none, .mov (.t 115)⟩]))))))
 (.seq (.seq (.region [⟨some 134, none, .load (.t 2) (some 5)⟩,⟨some 135, none, .mov (.t 1)⟩,⟨some 136, none, .call 29 [(.t 134), (.t 135)]⟩,⟨some 137, none, .not (.t 136)⟩])
 (.cond (.t 137) (.seq (.region [⟨some 138, none, .call 12 []⟩,⟨some 4, none, .mov (.t 138)⟩])
 (.ret))
 (.skip)))
 (.seq (.region [⟨some 140, none, .load (.t 2) (some 5)⟩,⟨some 141, none, .mov (.t 1)⟩,⟨some 142, none, .call 16 [(.t 140), (.t 141)]⟩,⟨some 139, none, .mov (.t 142)⟩,⟨some 143, none, .ext (.t 139) 0⟩,⟨some 144, none, .ext (.t 139) 1⟩,⟨some 15, none, .mov (.t 143)⟩,⟨some 16, none, .mov (.t 144)⟩])
 (.seq (.seq (.region [⟨some 17, none, .mov (.c (.int .i64 0))⟩])
 (.block 4 (.loop (.seq (.seq (.region [⟨some 145, none, .mov (.t 17)⟩,⟨some 146, none, .mov (.t 15)⟩,⟨some 147, none, .len (.t 146)⟩,⟨some 148, none, .bin .lss (.t 145) (.t 147)⟩])
 (.cond (.t 148) (.skip)
 (.exit 4)))
 (.seq (.block 5 (.seq (.region [⟨some 18, none, .mov (.c (.int .i64 0))⟩])
 (.block 6 (.loop (.seq (.seq (.region [⟨some 151, none, .mov (.t 18)⟩,⟨some 152, none, .mov (.t 5)⟩,⟨some 153, none, .len (.t 152)⟩,⟨some 154, none, .bin .lss (.t 151) (.t 153)⟩])
 (.cond (.t 154) (.skip)
 (.exit 6)))
 (.seq (.block 7 (.seq (.region [⟨some 157, none, .mov (.t 15)⟩,⟨some 158, none, .mov (.t 17)⟩,⟨some 159, none, .idx (.t 157) (.t 158) 1⟩,⟨some 160, none, .load (.t 159) none⟩,⟨some 161, none, .mov (.t 5)⟩,⟨some 162, none, .mov (.t 18)⟩,⟨some 163, none, .idx (.t 161) (.t 162) 1⟩,⟨some 164, none, .load (.t 163) none⟩,⟨some 165, none, .bin .eql (.t 160) (.t 164)⟩])
 (.cond (.t 165) (.seq (.region [⟨some 166, none, .mov (.t 16)⟩,⟨some 167, none, .bin .eql (.t 166) (.c (.int .i64 0))⟩,⟨some 168, none, .mov (.t 167)⟩,⟨some 169, some (168, true), .call 12 []⟩,⟨some 170, none, .pick (.t 168) (.t 169) (.c (.bool false))⟩,⟨some 4, none, .mov (.t 170)⟩])
 (.ret))
 (.skip))))
 (.region [⟨some 155, none, .mov (.t 18)⟩,⟨some 156, none, .bin .add (.t 155) (.c (.int .i64 1))⟩,⟨some 18, none, .mov (.t 156)⟩])))))))
 (.region [⟨some 149, none, .mov (.t 17)⟩,⟨some 150, none, .bin .add (.t 149) (.c (.int .i64 1))⟩,⟨some 17, none, .mov (.t 150)⟩]))))))
 (.seq (.region [⟨some 4, none, .mov (.c (.bool false))⟩])
 (.ret)))))))))))))
def r7 : List Res := [.t 4]
def a7 : AFn := ⟨2, c7, r7, .v⟩

/-- bijou/bijoulaw05.WeekLess -/
def c8 : ACode := .seq (.region [⟨some 2, none, .box (.t 0) 5⟩,⟨some 3, none, .box (.t 1) 4⟩,⟨some 4, none, .mov (.c (.bool false))⟩])
 (.seq (.seq (.region [⟨some 15, none, .load (.t 2) (some 5)⟩,⟨some 16, none, .call 30 [(.t 15)]⟩,⟨some 17, none, .not (.t 16)⟩,⟨some 18, none, .mov (.t 17)⟩,⟨some 19, some (18, false), .addr (.t 3) 0⟩,⟨some 20, some (18, false), .load (.t 19) none⟩,⟨some 21, some (18, false), .bin .lss (.t 20) (.c (.int .i64 0))⟩,⟨some 22, none, .pick (.t 18) (.c (.bool true)) (.t 21)⟩,⟨some 23, none, .mov (.t 22)⟩,⟨some 24, some (23, false), .addr (.t 3) 0⟩,⟨some 25, some (23, false), .load (.t 24) none⟩,⟨some 26, some (23, false), .addr (.t 2) 4⟩,⟨some 27, some (23, false), .load (.t 26) none⟩,⟨some 28, some (23, false), .len (.t 27)⟩,⟨some 29, some (23, false), .bin .geq (.t 25) (.t 28)⟩,⟨some 30, none, .pick (.t 23) (.c (.bool true)) (.t 29)⟩,⟨some 31, none, .mov (.t 30)⟩,⟨some 32, some (31, false), .addr (.t 3) 1⟩,⟨some 33, some (31, false), .load (.t 32) none⟩,⟨some 34, some (31, false), .bin .lss (.t 33) (.c (.int .i64 0))⟩,⟨some 35, none, .pick (.t 31) (.c (.bool true)) (.t 34)⟩,⟨some 36, none, .mov (.t 35)⟩,⟨some 37, some (36, false), .addr (.t 3) 2⟩,⟨some 38, some (36, false), .load (.t 37) none⟩,⟨some 39, some (36, false), .bin .lss (.t 38) (.c (.int .i64 0))⟩,⟨some 40, none, .pick (.t 36) (.c (.bool true)) (.t 39)⟩,⟨some 41, none, .mov (.t 40)⟩,⟨some 42, some (41, false), .addr (.t 3) 3⟩,⟨some 43, some (41, false), .load (.t 42) none⟩,⟨some 44, some (41, false), .bin .lss (.t 43) (.c (.int .i64 0))⟩,⟨some 45, none, .pick (.t 41) (.c (.bool true)) (.t 44)⟩,⟨some 46, none, .mov (.t 45)⟩,⟨some 47, some (46, false), .addr (.t 3) 1⟩,⟨some 48, some (46, false), .load (.t 47) none⟩,⟨some 49, some (46, false), .bin .gtr (.t 48) (.c (.int .i64 9))⟩,⟨some 50, none, .pick (.t 46) (.c (.bool true)) (.t 49)⟩,⟨some 51, none, .mov (.t 50)⟩,⟨some 52, some (51, false), .addr (.t 3) 2⟩,⟨some 53, some (51, false), .load (.t 52) none⟩,⟨some 54, some (51, false), .bin .gtr (.t 53) (.c (.int .i64 9))⟩,⟨some 55, none, .pick (.t 51) (.c (.bool true)) (.t 54)⟩,⟨some 56, none, .mov (.t 55)⟩,⟨some 57, some (56, false), .addr (.t 3) 3⟩,⟨some 58, some (56, false), .load (.t 57) none⟩,⟨some 59, some (56, false), .bin .gtr (.t 58) (.c (.int .i64 9))⟩,⟨some 60, none, .pick (.t 56) (.c (.bool true)) (.t 59)⟩])
 (.cond (.t 60) (.seq (.region [⟨some 61, none, .call 12 []⟩,⟨some 4, none, .mov (.t 61)⟩])
 (.ret))
 (.skip)))
 (.seq (.region [⟨some 63, none, .load (.t 2) (some 5)⟩,⟨some 64, none, .call 22 [(.t 63)]⟩,⟨some 62, none, .mov (.t 64)⟩,⟨some 65, none, .ext (.t 62) 0⟩,⟨some 66, none, .ext (.t 62) 1⟩,⟨some 5, none, .mov (.t 65)⟩,⟨some 6, none, .mov (.t 66)⟩])
 (.seq (.seq (.region [⟨some 67, none, .mov (.t 6)⟩,⟨some 68, none, .bin .eql (.t 67) (.c (.int .i64 3))⟩])
 (.cond (.t 68) (.seq (.region [⟨some 69, none, .call 12 []⟩,⟨some 4, none, .mov (.t 69)⟩])
 (.ret))
 (.skip)))
 (.seq (.region [⟨some 71, none, .load (.t 2) (some 5)⟩,⟨some 72, none, .addr (.t 3) 0⟩,⟨some 73, none, .load (.t 72) none⟩,⟨some 74, none, .call 32 [(.t 71), (.t 73)]⟩,⟨some 75, none, .call 22 [(.t 74)]⟩,⟨some 70, none, .mov (.t 75)⟩,⟨some 76, none, .ext (.t 70) 0⟩,⟨some 77, none, .ext (.t 70) 1⟩,⟨some 7, none, .mov (.t 76)⟩,⟨some 8, none, .mov (.t 77)⟩])
 (.seq (.seq (.region [⟨some 78, none, .mov (.t 6)⟩,⟨some 79, none, .bin .neq (.t 78) (.c (.int .i64 0))⟩,⟨some 80, none, .mov (.t 79)⟩,⟨some 81, some (80, false), .mov (.t 8)⟩,⟨some 82, some (80, false), .bin .neq (.t 81) (.c (.int .i64 0))⟩,⟨some 83, none, .pick (.t 80) (.c (.bool true)) (.t 82)⟩,⟨some 84, none, .mov (.t 83)⟩,⟨some 85, some (84, false), .mov (.t 7)⟩,⟨some 86, some (84, false), .mov (.t 5)⟩,⟨some 87, some (84, false), .bin .lss (.t 85) (.t 86)⟩,⟨some 88, none, .pick (.t 84) (.c (.bool true)) (.t 87)⟩])
 (.cond (.t 88) (.seq (.region [⟨some 4, none, .mov (.c (.bool false))⟩])
 (.ret))
 (.skip)))
 (.seq (.region [⟨some 90, none, .load (.t 2) (some 5)⟩,⟨some 91, none, .addr (.t 3) 0⟩,⟨some 92, none, .load (.t 91) none⟩,⟨some 93, none, .call 26 [(.t 90), (.t 92)]⟩,⟨some 89, none, .mov (.t 93)⟩,⟨some 94, none, .ext (.t 89) 0⟩,⟨some 95, none, .ext (.t 89) 1⟩,⟨some 9, none, .mov (.t 94)⟩,⟨some 10, none, .mov (.t 95)⟩])
 (.seq (.seq (.region [⟨some 96, none, .mov (.t 10)⟩,⟨some 97, none, .bin .neq (.t 96) (.c (.int .i64 0))⟩,⟨some 98, none, .mov (.t 97)⟩,⟨some 99, some (98, false), .mov (.t 9)⟩,⟨some 100, some (98, false), .mov (.t 7)⟩,⟨some 101, some (98, false), .mov (.t 5)⟩,⟨some 102, some (98, false), .bin .sub (.t 100) (.t 101)⟩,⟨some 103, some (98, false), .bin .neq (.t 99) (.t 102)⟩,⟨some 104, none, .pick (.t 98) (.c (.bool true)) (.t 103)⟩])
 (.cond (.t 104) (.seq (.region [⟨some 4, none, .mov (.c (.bool false))⟩])
 (.ret))
 (.skip)))
 (.seq (.region [⟨some 105, none, .load (.t 2) (some 5)⟩,⟨some 106, none, .call 13 [(.t 105)]⟩,⟨some 11, none, .new (.agg [(.int .i64 0), (.sl [] .tight), (.int .i64 0), (.sl [] .tight), (.sl [] .tight)]) 5⟩,⟨none, none, .store (.t 11) (.t 106) 5⟩])
 (.seq (.region [⟨some 107, none, .addr (.t 11) 4⟩,⟨some 108, none, .load (.t 107) none⟩,⟨some 109, none, .addr (.t 3) 0⟩,⟨some 110, none, .load (.t 109) none⟩,⟨some 111, none, .idx (.t 108) (.t 110) 8⟩,⟨some 112, none, .load (.t 111) (some 8)⟩,⟨some 12, none, .new (.agg [(.int .i64 0), (.int .i64 0), (.int .i64 0), (.int .i64 0), (.int .i64 0), (.int .i64 0), (.int .i64 0), (.int .i64 0)]) 8⟩,⟨none, none, .store (.t 12) (.t 112) 8⟩])
 (.seq (.seq (.region [⟨some 113, none, .addr (.t 12) 0⟩,⟨some 114, none, .load (.t 113) none⟩])
 (.block 0 (.seq (.region [⟨some 128, none, .bin .eql (.t 114) (.c (.int .i64 1))⟩,⟨some 127, none, .mov (.t 128)⟩])
 (.cond (.t 127) (.region [⟨some 129, none, .addr (.t 12) 7⟩,⟨some 130, none, .load (.t 129) none⟩,⟨some 131, none, .addr (.t 3) 3⟩,⟨some 132, none, .load (.t 131) none⟩,⟨some 133, none, .bin .sub (.t 130) (.t 132)⟩,⟨some 134, none, .mnx true (.c (.int .i64 0)) (.t 133)⟩,⟨some 135, none, .addr (.t 12) 7⟩,⟨none, none, .store (.t 135) (.t 134) 1⟩])
 (.seq (.region [⟨some 137, none, .bin .eql (.t 114) (.c (.int .i64 2))⟩,⟨some 136, none, .mov (.t 137)⟩])
 (.cond (.t 136) (.region [⟨some 138, none, .addr (.t 12) 7⟩,⟨some 139, none, .load (.t 138) none⟩,⟨some 140, none, .addr (.t 3) 3⟩,⟨some 141, none, .load (.t 140) none⟩,⟨some 142, none, .bin .add (.t 139) (.t 141)⟩,⟨some 143, none, .mnx false (.c (.int .i64 8)) (.t 142)⟩,⟨some 144, none, .addr (.t 12) 7⟩,⟨none, none, .store (.t 144) (.t 143) 1⟩])
 (.regionD [⟨some 115, none, .addr (.t 12) 2⟩,⟨some 116, none, .load (.t 115) none⟩,⟨some 117, none, .addr (.t 3) 1⟩,⟨some 118, none, .load (.t 117) none⟩,⟨some 119, none, .bin .add (.t 116) (.t 118)⟩,⟨some 120, none, .addr (.t 12) 3⟩,⟨some 121, none, .load (.t 120) none⟩,⟨some 122, none, .addr (.t 3) 2⟩,⟨some 123, none, .load (.t 122) none⟩,⟨some 124, none, .bin .sub (.t 121) (.t 123)⟩,⟨some 125, none, .addr (.t 12) 2⟩,⟨none, none, .store (.t 125) (.t 119) 1⟩,⟨some 126, none, .addr (.t 12) 3⟩,⟨none, none, .store (.t 126) (.t 124) 1⟩] [(122, 125)])))))))
 (.seq (.region [⟨some 145, none, .addr (.t 11) 4⟩,⟨some 146, none, .load (.t 145) none⟩,⟨some 147, none, .addr (.t 3) 0⟩,⟨some 148, none, .load (.t 147) none⟩,⟨some 149, none, .load (.t 12) (some 8)⟩,⟨some 150, none, .idx (.t 146) (.t 148) 8⟩,⟨none, none, .store (.t 150) (.t 149) 8⟩])
 (.seq (.seq (.region [⟨some 151, none, .load (.t 11) (some 5)⟩,⟨some 152, none, .call 15 [(.t 151)]⟩,⟨some 153, none, .bin .neq (.t 152) (.c (.int .i64 0))⟩])
 (.cond (.t 153) (.seq (.region [⟨some 154, none, .call 12 []⟩,⟨some 4, none, .mov (.t 154)⟩])
 (.ret))
 (.skip)))
 (.seq (.region [⟨some 156, none, .load (.t 11) (some 5)⟩,⟨some 157, none, .call 22 [(.t 156)]⟩,⟨some 155, none, .mov (.t 157)⟩,⟨some 158, none, .ext (.t 155) 0⟩,⟨some 159, none, .ext (.t 155) 1⟩,⟨some 13, none, .mov (.t 158)⟩,⟨some 14, none, .mov (.t 159)⟩])
 (.seq (.region [⟨some 160, none, .mov (.t 14)⟩,⟨some 161, none, .bin .eql (.t 160) (.c (.int .i64 0))⟩,⟨some 162, none, .mov (.t 161)⟩,⟨some 163, some (162, true), .mov (.t 13)⟩,⟨some 164, some (162, true), .mov (.t 5)⟩,⟨some 165, some (162, true), .bin .geq (.t 163) (.t 164)⟩,⟨some 166, none, .pick (.t 162) (.t 165) (.c (.bool false))⟩,⟨some 167, none, .mov (.t 166)⟩,⟨some 168, some (167, true), .call 12 []⟩,⟨some 169, none, .pick (.t 167) (.t 168) (.c (.bool false))⟩,⟨some 4, none, .mov (.t 169)⟩])
 (.ret)))))))))))))))
def r8 : List Res := [.t 4]
def a8 : AFn := ⟨2, c8, r8, .v⟩

/-- bijou/bijoulaw05.WeekSwapped -/
def c9 : ACode := .seq (.region [⟨some 3, none, .box (.t 0) 5⟩,⟨some 5, none, .box (.t 2) 2⟩,⟨some 6, none, .mov (.c (.bool false))⟩])
 (.seq (.seq (.region [⟨some 22, none, .load (.t 3) (some 5)⟩,⟨some 23, none, .call 11 [(.t 22)]⟩,⟨some 24, none, .mov (.t 23)⟩,⟨some 25, some (24, false), .load (.t 3) (some 5)⟩,⟨some 26, some (24, false), .call 15 [(.t 25)]⟩,⟨some 27, some (24, false), .bin .neq (.t 26) (.c (.int .i64 0))⟩,⟨some 28, none, .pick (.t 24) (.c (.bool true)) (.t 27)⟩,⟨some 29, none, .mov (.t 28)⟩,⟨some 30, some (29, false), .load (.t 3) (some 5)⟩,⟨some 31, some (29, false), .mov (.t 1)⟩,⟨some 32, some (29, false), .call 29 [(.t 30), (.t 31)]⟩,⟨some 33, some (29, false), .not (.t 32)⟩,⟨some 34, none, .pick (.t 29) (.c (.bool true)) (.t 33)⟩,⟨some 35, none, .mov (.t 34)⟩,⟨some 36, some (35, false), .addr (.t 5) 0⟩,⟨some 37, some (35, false), .load (.t 36) none⟩,⟨some 38, some (35, false), .bin .lss (.t 37) (.c (.int .i64 0))⟩,⟨some 39, none, .pick (.t 35) (.c (.bool true)) (.t 38)⟩,⟨some 40, none, .mov (.t 39)⟩,⟨some 41, some (40, false), .addr (.t 5) 1⟩,⟨some 42, some (40, false), .load (.t 41) none⟩,⟨some 43, some (40, false), .bin .lss (.t 42) (.c (.int .i64 0))⟩,⟨some 44, none, .pick (.t 40) (.c (.bool true)) (.t 43)⟩])
 (.cond (.t 44) (.seq (.region [⟨some 45, none, .call 12 []⟩,⟨some 6, none, .mov (.t 45)⟩])
 (.ret))
 (.skip)))
 (.seq (.region [⟨some 47, none, .load (.t 3) (some 5)⟩,⟨some 48, none, .mov (.t 1)⟩,⟨some 49, none, .call 16 [(.t 47), (.t 48)]⟩,⟨some 46, none, .mov (.t 49)⟩,⟨some 50, none, .ext (.t 46) 0⟩,⟨some 51, none, .ext (.t 46) 1⟩,⟨some 7, none, .mov (.t 50)⟩,⟨some 8, none, .mov (.t 51)⟩])
 (.seq (.region [⟨some 53, none, .load (.t 3) (some 5)⟩,⟨some 54, none, .mov (.t 1)⟩,⟨some 55, none, .call 18 [(.t 53), (.t 54)]⟩,⟨some 52, none, .mov (.t 55)⟩,⟨some 56, none, .ext (.t 52) 0⟩,⟨some 57, none, .ext (.t 52) 1⟩,⟨some 9, none, .mov (.t 56)⟩,⟨some 10, none, .mov (.t 57)⟩])
 (.seq (.seq (.region [⟨some 58, none, .mov (.t 8)⟩,⟨some 59, none, .bin .neq (.t 58) (.c (.int .i64 0))⟩,⟨some 60, none, .mov (.t 59)⟩,⟨some 61, some (60, false), .mov (.t 10)⟩,⟨some 62, some (60, false), .bin .neq (.t 61) (.c (.int .i64 0))⟩,⟨some 63, none, .pick (.t 60) (.c (.bool true)) (.t 62)⟩])
 (.cond (.t 63) (.seq (.region [⟨some 6, none, .mov (.c (.bool false))⟩])
 (.ret))
 (.skip)))
 (.seq (.seq (.region [⟨some 64, none, .addr (.t 5) 0⟩,⟨some 65, none, .load (.t 64) none⟩,⟨some 66, none, .addr (.t 3) 1⟩,⟨some 67, none, .load (.t 66) none⟩,⟨some 68, none, .len (.t 67)⟩,⟨some 69, none, .bin .lss (.t 65) (.t 68)⟩,⟨some 70, none, .mov (.t 69)⟩,⟨some 71, some (70, true), .addr (.t 5) 1⟩,⟨some 72, some (70, true), .load (.t 71) none⟩,⟨some 73, some (70, true), .addr (.t 3) 1⟩,⟨some 74, some (70, true), .load (.t 73) none⟩,⟨some 75, some (70, true), .len (.t 74)⟩,⟨some 76, some (70, true), .bin .lss (.t 72) (.t 75)⟩,⟨some 77, none, .pick (.t 70) (.t 76) (.c (.bool false))⟩,⟨some 78, none, .mov (.t 77)⟩,⟨some 79, some (78, true), .addr (.t 3) 1⟩,⟨some 80, some (78, true), .load (.t 79) none⟩,⟨some 81, some (78, true), .addr (.t 5) 0⟩,⟨some 82, some (78, true), .load (.t 81) none⟩,⟨some 83, some (78, true), .idx (.t 80) (.t 82) 1⟩,⟨some 84, some (78, true), .load (.t 83) none⟩,⟨some 85, some (78, true), .addr (.t 3) 1⟩,⟨some 86, some (78, true), .load (.t 85) none⟩,⟨some 87, some (78, true), .addr (.t 5) 1⟩,⟨some 88, some (78, true), .load (.t 87) none⟩,⟨some 89, some (78, true), .idx (.t 86) (.t 88) 1⟩,⟨some 90, some (78, true), .load (.t 89) none⟩,⟨some 91, some (78, true), .bin .eql (.t 84) (.t 90)⟩,⟨some 92, none, .pick (.t 78) (.t 91) (.c (.bool false))⟩])
 (.cond (.t 92) (.seq (.region [⟨some 93, none, .lit false 3 1 []⟩,⟨some 94, none, .mov (.t 1)⟩,⟨some 95, none, .app0 (.t 93) (.t 94) 3 1 8⟩,⟨some 11, none, .mov (.t 95)⟩])
 (.seq (.seq (.region [⟨some 12, none, .mov (.c (.int .i64 0))⟩])
 (.block 0 (.loop (.seq (.seq (.region [⟨some 96, none, .mov (.t 12)⟩,⟨some 97, none, .addr (.t 3) 0⟩,⟨some 98, none, .load (.t 97) none⟩,⟨some 99, none, .bin .lss (.t 96) (.t 98)⟩])
 (.cond (.t 99) (.skip)
 (.exit 0)))
 (.seq (.block 1 (.seq (.region [⟨some 13, none, .mov (.c (.int .i64 0))⟩])
 (.block 2 (.loop (.seq (.seq (.region [⟨some 102, none, .mov (.t 13)⟩,⟨some 103, none, .addr (.t 3) 2⟩,⟨some 104, none, .load (.t 103) none⟩,⟨some 105, none, .bin .lss (.t 102) (.t 104)⟩])
 (.cond (.t 105) (.skip)
 (.exit 2)))
 (.seq (.block 3 (.seq (.region [⟨some 108, none, .load (.t 3) (some 5)⟩,⟨some 109, none, .mov (.t 12)⟩,⟨some 110, none, .addr (.t 5) 0⟩,⟨some 111, none, .load (.t 110) none⟩,⟨some 112, none, .mov (.t 13)⟩,⟨some 113, none, .call 33 [(.t 108), (.t 109), (.t 111), (.t 112)]⟩,⟨some 114, none, .load (.t 3) (some 5)⟩,⟨some 115, none, .mov (.t 12)⟩,⟨some 116, none, .addr (.t 5) 1⟩,⟨some 117, none, .load (.t 116) none⟩,⟨some 118, none, .mov (.t 13)⟩,⟨some 119, none, .call 33 [(.t 114), (.t 115), (.t 117), (.t 118)]⟩,⟨some 14, none, .mov (.t 113)⟩,⟨some 15, none, .mov (.t 119)⟩])
 (.region [⟨some 120, none, .mov (.t 11)⟩,⟨some 121, none, .mov (.t 14)⟩,⟨some 122, none, .mov (.t 11)⟩,⟨some 123, none, .mov (.t 15)⟩,⟨some 124, none, .mov (.t 1)⟩,⟨some 125, none, .mov (.t 15)⟩,⟨some 126, none, .idx (.t 124) (.t 125) 1⟩,⟨some 127, none, .load (.t 126) none⟩,⟨some 128, none, .mov (.t 1)⟩,⟨some 129, none, .mov (.t 14)⟩,⟨some 130, none, .idx (.t 128) (.t 129) 1⟩,⟨some 131, none, .load (.t 130) none⟩,⟨some 132, none, .idx (.t 120) (.t 121) 1⟩,⟨none, none, .store (.t 132) (.t 127) 1⟩,⟨some 133, none, .idx (.t 122) (.t 123) 1⟩,⟨none, none, .store (.t 133) (.t 131) 1⟩])))
 (.region [⟨some 106, none, .mov (.t 13)⟩,⟨some 107, none, .bin .add (.t 106) (.c (.int .i64 1))⟩,⟨some 13, none, .mov (.t 107)⟩])))))))
 (.region [⟨some 100, none, .mov (.t 12)⟩,⟨some 101, none, .bin .add (.t 100) (.c (.int .i64 1))⟩,⟨some 12, none, .mov (.t 101)⟩]))))))
 (.seq (.region [⟨some 134, none, .load (.t 3) (some 5)⟩,⟨some 135, none, .mov (.t 11)⟩,⟨some 136, none, .mov (.t 7)⟩,⟨some 137, none, .mov (.t 9)⟩,⟨some 138, none, .call 34 [(.t 134), (.t 135), (.t 136), (.t 137)]⟩,⟨some 139, none, .not (.t 138)⟩])
 (.cond (.t 139) (.seq (.region [⟨some 6, none, .mov (.c (.bool false))⟩])
 (.ret))
 (.skip)))))
 (.skip)))
 (.seq (.seq (.region [⟨some 16, none, .mov (.c (.int .i64 0))⟩])
 (.block 4 (.loop (.seq (.seq (.region [⟨some 140, none, .mov (.t 16)⟩,⟨some 141, none, .addr (.t 3) 4⟩,⟨some 142, none, .load (.t 141) none⟩,⟨some 143, none, .len (.t 142)⟩,⟨some 144, none, .bin .lss (.t 140) (.t 143)⟩])
 (.cond (.t 144) (.skip)
 (.exit 4)))
 (.seq (.block 5 (.seq (.region [⟨some 147, none, .addr (.t 3) 4⟩,⟨some 148, none, .load (.t 147) none⟩,⟨some 149, none, .mov (.t 16)⟩,⟨some 150, none, .idx (.t 148) (.t 149) 8⟩,⟨some 151, none, .addr (.t 150) 2⟩,⟨some 152, none, .load (.t 151) none⟩,⟨some 153, none, .bin .neq (.t 152) (.c (.int .i64 0))⟩,⟨some 154, none, .mov (.t 153)⟩,⟨some 155, some (154, false), .addr (.t 3) 4⟩,⟨some 156, some (154, false), .load (.t 155) none⟩,⟨some 157, some (154, false), .mov (.t 16)⟩,⟨some 158, some (154, false), .idx (.t 156) (.t 157) 8⟩,⟨some 159, some (154, false), .addr (.t 158) 3⟩,⟨some 160, some (154, false), .load (.t 159) none⟩,⟨some 161, some (154, false), .addr (.t 3) 0⟩,⟨some 162, some (154, false), .load (.t 161) none⟩,⟨some 163, some (154, false), .bin .sub (.t 162) (.c (.int .i64 1))⟩,⟨some 164, some (154, false), .bin .neq (.t 160) (.t 163)⟩,⟨some 165, none, .pick (.t 154) (.c (.bool true)) (.t 164)⟩])
 (.cond (.t 165) (.seq (.region [⟨some 166, none, .call 12 []⟩,⟨some 6, none, .mov (.t 166)⟩])
 (.ret))
 (.skip))))
 (.region [⟨some 145, none, .mov (.t 16)⟩,⟨some 146, none, .bin .add (.t 145) (.c (.int .i64 1))⟩,⟨some 16, none, .mov (.t 146)⟩]))))))
 (.seq (.seq (.region [⟨some 167, none, .addr (.t 5) 0⟩,⟨some 168, none, .load (.t 167) none⟩,⟨some 169, none, .addr (.t 3) 0⟩,⟨some 170, none, .load (.t 169) none⟩,⟨some 171, none, .bin .geq (.t 168) (.t 170)⟩,⟨some 172, none, .mov (.t 171)⟩,⟨some 173, some (172, false), .addr (.t 5) 1⟩,⟨some 174, some (172, false), .load (.t 173) none⟩,⟨some 175, some (172, false), .addr (.t 3) 0⟩,⟨some 176, some (172, false), .load (.t 175) none⟩,⟨some 177, some (172, false), .bin .geq (.t 174) (.t 176)⟩,⟨some 178, none, .pick (.t 172) (.c (.bool true)) (.t 177)⟩])
 (.cond (.t 178) (.seq (.region [⟨some 179, none, .call 12 []⟩,⟨some 6, none, .mov (.t 179)⟩])
 (.ret))
 (.skip)))
 (.seq (.region [⟨some 180, none, .lit false 3 1 []⟩,⟨some 181, none, .mov (.t 1)⟩,⟨some 182, none, .app0 (.t 180) (.t 181) 3 1 8⟩,⟨some 17, none, .mov (.t 182)⟩])
 (.seq (.seq (.region [⟨some 18, none, .mov (.c (.int .i64 0))⟩])
 (.block 6 (.loop (.seq (.seq (.region [⟨some 183, none, .mov (.t 18)⟩,⟨some 184, none, .addr (.t 3) 1⟩,⟨some 185, none, .load (.t 184) none⟩,⟨some 186, none, .len (.t 185)⟩,⟨some 187, none, .bin .lss (.t 183) (.t 186)⟩])
 (.cond (.t 187) (.skip)
 (.exit 6)))
 (.seq (.block 7 (.seq (.region [⟨some 19, none, .mov (.c (.int .i64 0))⟩])
 (.block 8 (.loop (.seq (.seq (.region [⟨some 190, none, .mov (.t 19)⟩,⟨some 191, none, .addr (.t 3) 2⟩,⟨some 192, none, .load (.t 191) none⟩,⟨some 193, none, .bin .lss (.t 190) (.t 192)⟩])
 (.cond (.t 193) (.skip)
 (.exit 8)))
 (.seq (.block 9 (.seq (.region [⟨some 196, none, .load (.t 3) (some 5)⟩,⟨some 197, none, .addr (.t 5) 0⟩,⟨some 198, none, .load (.t 197) none⟩,⟨some 199, none, .mov (.t 18)⟩,⟨some 200, none, .mov (.t 19)⟩,⟨some 201, none, .call 33 [(.t 196), (.t 198), (.t 199), (.t 200)]⟩,⟨some 202, none, .load (.t 3) (some 5)⟩,⟨some 203, none, .addr (.t 5) 1⟩,⟨some 204, none, .load (.t 203) none⟩,⟨some 205, none, .mov (.t 18)⟩,⟨some 206, none, .mov (.t 19)⟩,⟨some 207, none, .call 33 [(.t 202), (.t 204), (.t 205), (.t 206)]⟩,⟨some 20, none, .mov (.t 201)⟩,⟨some 21, none, .mov (.t 207)⟩])
 (.region [⟨some 208, none, .mov (.t 17)⟩,⟨some 209, none, .mov (.t 20)⟩,⟨some 210, none, .mov (.t 17)⟩,⟨some 211, none, .mov (.t 21)⟩,⟨some 212, none, .mov (.t 1)⟩,⟨some 213, none, .mov (.t 21)⟩,⟨some 214, none, .idx (.t 212) (.t 213) 1⟩,⟨some 215, none, .load (.t 214) none⟩,⟨some 216, none, .mov (.t 1)⟩,⟨some 217, none, .mov (.t 20)⟩,⟨some 218, none, .idx (.t 216) (.t 217) 1⟩,⟨some 219, none, .load (.t 218) none⟩,⟨some 220, none, .idx (.t 208) (.t 209) 1⟩,⟨none, none, .store (.t 220) (.t 215) 1⟩,⟨some 221, none, .idx (.t 210) (.t 211) 1⟩,⟨none, none, .store (.t 221) (.t 219) 1⟩])))
 (.region [⟨some 194, none, .mov (.t 19)⟩,⟨some 195, none, .bin .add (.t 194) (.c (.int .i64 1))⟩,⟨some 19, none, .mov (.t 195)⟩])))))))
 (.region [⟨some 188, none, .mov (.t 18)⟩,⟨some 189, none, .bin .add (.t 188) (.c (.int .i64 1))⟩,⟨some 18, none, .mov (.t 189)⟩]))))))
 (.seq (.region [⟨some 222, none, .load (.t 3) (some 5)⟩,⟨some 223, none, .mov (.t 17)⟩,⟨some 224, none, .mov (.t 7)⟩,⟨some 225, none, .mov (.t 9)⟩,⟨some 226, none, .call 34 [(.t 222), (.t 223), (.t 224), (.t 225)]⟩,⟨some 227, none, .mov (.t 226)⟩,⟨some 228, some (227, true), .call 12 []⟩,⟨some 229, none, .pick (.t 227) (.t 228) (.c (.bool false))⟩,⟨some 6, none, .mov (.t 229)⟩])
 (.ret)))))))))))
def r9 : List Res := [.t 6]
def a9 : AFn := ⟨3, c9, r9, .v⟩

/-- bijou/bijoulaw05.WeekPrices -/
def c10 : ACode := .seq (.region [⟨some 3, none, .box (.t 0) 5⟩,⟨some 5, none, .box (.t 2) 2⟩,⟨some 6, none, .mov (.c (.bool false))⟩])
 (.seq (.seq (.region [⟨some 16, none, .load (.t 3) (some 5)⟩,⟨some 17, none, .call 30 [(.t 16)]⟩,⟨some 18, none, .not (.t 17)⟩,⟨some 19, none, .mov (.t 18)⟩,⟨some 20, some (19, false), .mov (.t 1)⟩,⟨some 21, some (19, false), .bin .lss (.t 20) (.c (.int .i64 1))⟩,⟨some 22, none, .pick (.t 19) (.c (.bool true)) (.t 21)⟩,⟨some 23, none, .mov (.t 22)⟩,⟨some 24, some (23, false), .mov (.t 1)⟩,⟨some 25, some (23, false), .bin .gtr (.t 24) (.c (.int .i64 20))⟩,⟨some 26, none, .pick (.t 23) (.c (.bool true)) (.t 25)⟩])
 (.cond (.t 26) (.seq (.region [⟨some 27, none, .call 12 []⟩,⟨some 6, none, .mov (.t 27)⟩])
 (.ret))
 (.skip)))
 (.seq (.region [⟨some 29, none, .load (.t 3) (some 5)⟩,⟨some 30, none, .call 22 [(.t 29)]⟩,⟨some 28, none, .mov (.t 30)⟩,⟨some 31, none, .ext (.t 28) 0⟩,⟨some 32, none, .ext (.t 28) 1⟩,⟨some 7, none, .mov (.t 31)⟩,⟨some 8, none, .mov (.t 32)⟩])
 (.seq (.region [⟨some 33, none, .load (.t 3) (some 5)⟩,⟨some 34, none, .call 13 [(.t 33)]⟩,⟨some 9, none, .new (.agg [(.int .i64 0), (.sl [] .tight), (.int .i64 0), (.sl [] .tight), (.sl [] .tight)]) 5⟩,⟨none, none, .store (.t 9) (.t 34) 5⟩])
 (.seq (.seq (.region [⟨some 10, none, .mov (.c (.int .i64 0))⟩])
 (.block 0 (.loop (.seq (.seq (.region [⟨some 35, none, .mov (.t 10)⟩,⟨some 36, none, .addr (.t 9) 3⟩,⟨some 37, none, .load (.t 36) none⟩,⟨some 38, none, .len (.t 37)⟩,⟨some 39, none, .bin .lss (.t 35) (.t 38)⟩])
 (.cond (.t 39) (.skip)
 (.exit 0)))
 (.seq (.block 1 (.region [⟨some 42, none, .addr (.t 9) 3⟩,⟨some 43, none, .load (.t 42) none⟩,⟨some 44, none, .mov (.t 10)⟩,⟨some 45, none, .idx (.t 43) (.t 44) 2⟩,⟨some 46, none, .addr (.t 45) 0⟩,⟨some 47, none, .load (.t 46) none⟩,⟨some 48, none, .mov (.t 1)⟩,⟨some 49, none, .bin .mul (.t 47) (.t 48)⟩,⟨some 50, none, .idx (.t 43) (.t 44) 2⟩,⟨some 51, none, .addr (.t 50) 0⟩,⟨none, none, .store (.t 51) (.t 49) 1⟩]))
 (.region [⟨some 40, none, .mov (.t 10)⟩,⟨some 41, none, .bin .add (.t 40) (.c (.int .i64 1))⟩,⟨some 10, none, .mov (.t 41)⟩]))))))
 (.seq (.seq (.region [⟨some 52, none, .load (.t 9) (some 5)⟩,⟨some 53, none, .call 15 [(.t 52)]⟩,⟨some 54, none, .bin .eql (.t 53) (.c (.int .i64 0))⟩])
 (.cond (.t 54) (.seq (.region [⟨some 56, none, .load (.t 9) (some 5)⟩,⟨some 57, none, .call 22 [(.t 56)]⟩,⟨some 55, none, .mov (.t 57)⟩,⟨some 58, none, .ext (.t 55) 0⟩,⟨some 59, none, .ext (.t 55) 1⟩,⟨some 11, none, .mov (.t 58)⟩,⟨some 12, none, .mov (.t 59)⟩])
 (.seq (.region [⟨some 60, none, .mov (.t 12)⟩,⟨some 61, none, .mov (.t 8)⟩,⟨some 62, none, .bin .neq (.t 60) (.t 61)⟩,⟨some 63, none, .mov (.t 62)⟩,⟨some 64, some (63, false), .mov (.t 11)⟩,⟨some 65, some (63, false), .mov (.t 7)⟩,⟨some 66, some (63, false), .mov (.t 1)⟩,⟨some 67, some (63, false), .bin .mul (.t 65) (.t 66)⟩,⟨some 68, some (63, false), .bin .neq (.t 64) (.t 67)⟩,⟨some 69, none, .pick (.t 63) (.c (.bool true)) (.t 68)⟩])
 (.cond (.t 69) (.seq (.region [⟨some 6, none, .mov (.c (.bool false))⟩])
 (.ret))
 (.skip))))
 (.skip)))
 (.seq (.region [⟨some 70, none, .load (.t 3) (some 5)⟩,⟨some 71, none, .call 13 [(.t 70)]⟩,⟨some 13, none, .new (.agg [(.int .i64 0), (.sl [] .tight), (.int .i64 0), (.sl [] .tight), (.sl [] .tight)]) 5⟩,⟨none, none, .store (.t 13) (.t 71) 5⟩])
 (.seq (.region [⟨some 72, none, .addr (.t 13) 3⟩,⟨some 73, none, .load (.t 72) none⟩,⟨some 74, none, .load (.t 5) (some 2)⟩,⟨some 75, none, .lit false 55 2 [(.t 74)]⟩,⟨some 76, none, .app false (.t 73) (.t 75) 55 2 32⟩,⟨some 77, none, .addr (.t 13) 3⟩,⟨none, none, .store (.t 77) (.t 76) 1⟩])
 (.seq (.seq (.region [⟨some 78, none, .addr (.t 5) 1⟩,⟨some 79, none, .load (.t 78) none⟩,⟨some 80, none, .len (.t 79)⟩,⟨some 81, none, .bin .gtr (.t 80) (.c (.int .i64 20))⟩,⟨some 82, none, .mov (.t 81)⟩,⟨some 83, some (82, false), .load (.t 13) (some 5)⟩,⟨some 84, some (82, false), .call 30 [(.t 83)]⟩,⟨some 85, some (82, false), .not (.t 84)⟩,⟨some 86, none, .pick (.t 82) (.c (.bool true)) (.t 85)⟩])
 (.cond (.t 86) (.seq (.region [⟨some 87, none, .call 12 []⟩,⟨some 6, none, .mov (.t 87)⟩])
 (.ret))
 (.skip)))
 (.seq (.region [⟨some 89, none, .load (.t 13) (some 5)⟩,⟨some 90, none, .call 22 [(.t 89)]⟩,⟨some 88, none, .mov (.t 90)⟩,⟨some 91, none, .ext (.t 88) 0⟩,⟨some 92, none, .ext (.t 88) 1⟩,⟨some 14, none, .mov (.t 91)⟩,⟨some 15, none, .mov (.t 92)⟩])
 (.seq (.region [⟨some 93, none, .mov (.t 8)⟩,⟨some 94, none, .bin .neq (.t 93) (.c (.int .i64 0))⟩,⟨some 95, none, .mov (.t 94)⟩,⟨some 96, some (95, false), .mov (.t 15)⟩,⟨some 97, some (95, false), .bin .eql (.t 96) (.c (.int .i64 0))⟩,⟨some 98, some (95, false), .mov (.t 97)⟩,⟨some 99, some (98, true), .mov (.t 14)⟩,⟨some 100, some (98, true), .mov (.t 7)⟩,⟨some 101, some (98, true), .bin .geq (.t 99) (.t 100)⟩,⟨some 102, some (95, false), .pick (.t 98) (.t 101) (.c (.bool false))⟩,⟨some 103, none, .pick (.t 95) (.c (.bool true)) (.t 102)⟩,⟨some 104, none, .mov (.t 103)⟩,⟨some 105, some (104, true), .call 12 []⟩,⟨some 106, none, .pick (.t 104) (.t 105) (.c (.bool false))⟩,⟨some 6, none, .mov (.t 106)⟩])
 (.ret)))))))))))
def r10 : List Res := [.t 6]
def a10 : AFn := ⟨3, c10, r10, .v⟩

/-- bijou/bijoulaw05.huge -/
def c11 : ACode := .seq (.region [⟨some 1, none, .box (.t 0) 5⟩,⟨some 2, none, .mov (.c (.bool false))⟩])
 (.seq (.seq (.region [⟨some 3, none, .mov (.c (.int .i64 0))⟩])
 (.block 0 (.loop (.seq (.seq (.region [⟨some 4, none, .mov (.t 3)⟩,⟨some 5, none, .addr (.t 1) 3⟩,⟨some 6, none, .load (.t 5) none⟩,⟨some 7, none, .len (.t 6)⟩,⟨some 8, none, .bin .lss (.t 4) (.t 7)⟩])
 (.cond (.t 8) (.skip)
 (.exit 0)))
 (.seq (.block 1 (.seq (.region [⟨some 11, none, .addr (.t 1) 3⟩,⟨some 12, none, .load (.t 11) none⟩,⟨some 13, none, .mov (.t 3)⟩,⟨some 14, none, .idx (.t 12) (.t 13) 2⟩,⟨some 15, none, .addr (.t 14) 1⟩,⟨some 16, none, .load (.t 15) none⟩,⟨some 17, none, .len (.t 16)⟩,⟨some 18, none, .bin .gtr (.t 17) (.c (.int .i64 40))⟩])
 (.cond (.t 18) (.seq (.region [⟨some 2, none, .mov (.c (.bool true))⟩])
 (.ret))
 (.skip))))
 (.region [⟨some 9, none, .mov (.t 3)⟩,⟨some 10, none, .bin .add (.t 9) (.c (.int .i64 1))⟩,⟨some 3, none, .mov (.t 10)⟩]))))))
 (.seq (.region [⟨some 19, none, .addr (.t 1) 1⟩,⟨some 20, none, .load (.t 19) none⟩,⟨some 21, none, .len (.t 20)⟩,⟨some 22, none, .bin .gtr (.t 21) (.c (.int .i64 40))⟩,⟨some 23, none, .mov (.t 22)⟩,⟨some 24, some (23, false), .addr (.t 1) 3⟩,⟨some 25, some (23, false), .load (.t 24) none⟩,⟨some 26, some (23, false), .len (.t 25)⟩,⟨some 27, some (23, false), .bin .gtr (.t 26) (.c (.int .i64 40))⟩,⟨some 28, none, .pick (.t 23) (.c (.bool true)) (.t 27)⟩,⟨some 29, none, .mov (.t 28)⟩,⟨some 30, some (29, false), .addr (.t 1) 4⟩,⟨some 31, some (29, false), .load (.t 30) none⟩,⟨some 32, some (29, false), .len (.t 31)⟩,⟨some 33, some (29, false), .bin .gtr (.t 32) (.c (.int .i64 40))⟩,⟨some 34, none, .pick (.t 29) (.c (.bool true)) (.t 33)⟩,⟨some 2, none, .mov (.t 34)⟩])
 (.ret)))
def r11 : List Res := [.t 2]
def a11 : AFn := ⟨1, c11, r11, .v⟩

/-- bijou/bijoulaw05.works -/
def c12 : ACode := .seq (.region [⟨some 0, none, .mov (.c (.bool false))⟩])
 (.seq (.region [⟨some 10, none, .call 35 []⟩,⟨some 1, none, .new (.agg [(.int .i64 0), (.sl [] .tight), (.int .i64 0), (.sl [] .tight), (.sl [] .tight)]) 5⟩,⟨none, none, .store (.t 1) (.t 10) 5⟩])
 (.seq (.region [⟨some 12, none, .load (.t 1) (some 5)⟩,⟨some 13, none, .call 22 [(.t 12)]⟩,⟨some 11, none, .mov (.t 13)⟩,⟨some 14, none, .ext (.t 11) 0⟩,⟨some 15, none, .ext (.t 11) 1⟩,⟨some 2, none, .mov (.t 14)⟩,⟨some 3, none, .mov (.t 15)⟩])
 (.seq (.region [⟨some 17, none, .load (.t 1) (some 5)⟩,⟨some 18, none, .lit false 3 1 [(.c (.int .i64 0)), (.c (.int .i64 1)), (.c (.int .i64 0)), (.c (.int .i64 (-1)))]⟩,⟨some 19, none, .call 16 [(.t 17), (.t 18)]⟩,⟨some 16, none, .mov (.t 19)⟩,⟨some 20, none, .ext (.t 16) 0⟩,⟨some 21, none, .ext (.t 16) 1⟩,⟨some 4, none, .mov (.t 20)⟩,⟨some 5, none, .mov (.t 21)⟩])
 (.seq (.region [⟨some 23, none, .load (.t 1) (some 5)⟩,⟨some 24, none, .call 26 [(.t 23), (.c (.int .i64 0))]⟩,⟨some 22, none, .mov (.t 24)⟩,⟨some 25, none, .ext (.t 22) 0⟩,⟨some 26, none, .ext (.t 22) 1⟩,⟨some 6, none, .mov (.t 25)⟩,⟨some 7, none, .mov (.t 26)⟩])
 (.seq (.region [⟨some 28, none, .load (.t 1) (some 5)⟩,⟨some 29, none, .call 24 [(.t 28)]⟩,⟨some 27, none, .mov (.t 29)⟩,⟨some 30, none, .ext (.t 27) 0⟩,⟨some 31, none, .ext (.t 27) 1⟩,⟨some 8, none, .mov (.t 30)⟩,⟨some 9, none, .mov (.t 31)⟩])
 (.seq (.region [⟨some 32, none, .mov (.t 3)⟩,⟨some 33, none, .bin .eql (.t 32) (.c (.int .i64 0))⟩,⟨some 34, none, .mov (.t 33)⟩,⟨some 35, some (34, true), .mov (.t 5)⟩,⟨some 36, some (34, true), .bin .eql (.t 35) (.c (.int .i64 0))⟩,⟨some 37, none, .pick (.t 34) (.t 36) (.c (.bool false))⟩,⟨some 38, none, .mov (.t 37)⟩,⟨some 39, some (38, true), .mov (.t 7)⟩,⟨some 40, some (38, true), .bin .eql (.t 39) (.c (.int .i64 0))⟩,⟨some 41, none, .pick (.t 38) (.t 40) (.c (.bool false))⟩,⟨some 42, none, .mov (.t 41)⟩,⟨some 43, some (42, true), .mov (.t 9)⟩,⟨some 44, some (42, true), .bin .eql (.t 43) (.c (.int .i64 3))⟩,⟨some 45, none, .pick (.t 42) (.t 44) (.c (.bool false))⟩,⟨some 46, none, .mov (.t 45)⟩,⟨some 47, some (46, true), .mov (.t 2)⟩,⟨some 48, some (46, true), .bin .eql (.t 47) (.c (.int .i64 2520))⟩,⟨some 49, none, .pick (.t 46) (.t 48) (.c (.bool false))⟩,⟨some 50, none, .mov (.t 49)⟩,⟨some 51, some (50, true), .mov (.t 4)⟩,⟨some 52, some (50, true), .lit false 3 1 [(.c (.int .i64 0)), (.c (.int .i64 1))]⟩,⟨some 53, some (50, true), .call 20 [(.t 51), (.t 52)]⟩,⟨some 54, none, .pick (.t 50) (.t 53) (.c (.bool false))⟩,⟨some 55, none, .mov (.t 54)⟩,⟨some 56, some (55, true), .mov (.t 6)⟩,⟨some 57, some (55, true), .bin .eql (.t 56) (.c (.int .i64 280))⟩,⟨some 58, none, .pick (.t 55) (.t 57) (.c (.bool false))⟩,⟨some 0, none, .mov (.t 58)⟩])
 (.ret)))))))
def r12 : List Res := [.t 0]
def a12 : AFn := ⟨0, c12, r12, .v⟩

/-- bijou/bijouref05.Copy -/
def c13 : ACode := .seq (.region [⟨some 1, none, .boxf (.t 0) 5⟩,⟨some 2, none, .new (.agg [(.int .i64 0), (.sl [] .tight), (.int .i64 0), (.sl [] .tight), (.sl [] .tight)]) 5⟩])
 (.seq (.region [⟨some 5, none, .load (.t 1) (some 5)⟩,⟨some 3, none, .new (.agg [(.int .i64 0), (.sl [] .tight), (.int .i64 0), (.sl [] .tight), (.sl [] .tight)]) 5⟩,⟨none, none, .store (.t 3) (.t 5) 5⟩])
 (.seq (.region [⟨some 6, none, .lit false 3 1 []⟩,⟨some 7, none, .addr (.t 1) 1⟩,⟨some 8, none, .load (.t 7) none⟩,⟨some 9, none, .app0 (.t 6) (.t 8) 3 1 8⟩,⟨some 10, none, .addr (.t 3) 1⟩,⟨none, none, .store (.t 10) (.t 9) 1⟩])
 (.seq (.region [⟨some 11, none, .lit false 55 2 []⟩,⟨some 12, none, .addr (.t 1) 3⟩,⟨some 13, none, .load (.t 12) none⟩,⟨some 14, none, .app0 (.t 11) (.t 13) 55 2 32⟩,⟨some 15, none, .addr (.t 3) 3⟩,⟨none, none, .store (.t 15) (.t 14) 1⟩])
 (.seq (.seq (.region [⟨some 4, none, .mov (.c (.int .i64 0))⟩])
 (.block 0 (.loop (.seq (.seq (.region [⟨some 16, none, .mov (.t 4)⟩,⟨some 17, none, .addr (.t 3) 3⟩,⟨some 18, none, .load (.t 17) none⟩,⟨some 19, none, .len (.t 18)⟩,⟨some 20, none, .bin .lss (.t 16) (.t 19)⟩])
 (.cond (.t 20) (.skip)
 (.exit 0)))
 (.seq (.block 1 (.region [⟨some 23, none, .addr (.t 3) 3⟩,⟨some 24, none, .load (.t 23) none⟩,⟨some 25, none, .mov (.t 4)⟩,⟨some 26, none, .lit false 3 1 []⟩,⟨some 27, none, .addr (.t 1) 3⟩,⟨some 28, none, .load (.t 27) none⟩,⟨some 29, none, .mov (.t 4)⟩,⟨some 30, none, .idx (.t 28) (.t 29) 2⟩,⟨some 31, none, .addr (.t 30) 1⟩,⟨some 32, none, .load (.t 31) none⟩,⟨some 33, none, .app0 (.t 26) (.t 32) 3 1 8⟩,⟨some 34, none, .idx (.t 24) (.t 25) 2⟩,⟨some 35, none, .addr (.t 34) 1⟩,⟨none, none, .store (.t 35) (.t 33) 1⟩]))
 (.region [⟨some 21, none, .mov (.t 4)⟩,⟨some 22, none, .bin .add (.t 21) (.c (.int .i64 1))⟩,⟨some 4, none, .mov (.t 22)⟩]))))))
 (.seq (.region [⟨some 36, none, .lit false 47 8 []⟩,⟨some 37, none, .addr (.t 1) 4⟩,⟨some 38, none, .load (.t 37) none⟩,⟨some 39, none, .app0 (.t 36) (.t 38) 47 8 64⟩,⟨some 40, none, .addr (.t 3) 4⟩,⟨none, none, .store (.t 40) (.t 39) 1⟩])
 (.seq (.region [⟨some 41, none, .load (.t 3) (some 5)⟩,⟨none, none, .store (.t 2) (.t 41) 5⟩])
 (.ret)))))))
def r13 : List Res := [.cell 2 (some 5)]
def a13 : AFn := ⟨1, c13, r13, .o⟩

/-- bijou/week.Check -/
def c14 : ACode := .seq (.region [⟨some 1, none, .box (.t 0) 5⟩,⟨some 2, none, .mov (.c (.int .i64 0))⟩])
 (.seq (.block 0 (.seq (.region [⟨some 4, none, .load (.t 1) (some 5)⟩,⟨some 5, none, .call 36 [(.t 4)]⟩,⟨some 6, none, .not (.t 5)⟩,⟨some 3, none, .mov (.t 6)⟩])
 (.cond (.t 3) (.seq (.region [⟨some 2, none, .mov (.c (.int .i64 50))⟩])
 (.ret))
 (.seq (.region [⟨some 8, none, .load (.t 1) (some 5)⟩,⟨some 9, none, .call 37 [(.t 8)]⟩,⟨some 10, none, .not (.t 9)⟩,⟨some 7, none, .mov (.t 10)⟩])
 (.cond (.t 7) (.seq (.region [⟨some 2, none, .mov (.c (.int .i64 51))⟩])
 (.ret))
 (.skip))))))
 (.seq (.region [⟨some 2, none, .mov (.c (.int .i64 0))⟩])
 (.ret)))
def r14 : List Res := [.t 2]
def a14 : AFn := ⟨1, c14, r14, .v⟩

/-- bijou/bijouref05.Check -/
def c15 : ACode := .seq (.region [⟨some 1, none, .box (.t 0) 5⟩,⟨some 2, none, .mov (.c (.int .i64 0))⟩])
 (.seq (.seq (.region [⟨some 6, none, .addr (.t 1) 0⟩,⟨some 7, none, .load (.t 6) none⟩,⟨some 8, none, .call 38 [(.t 7), (.c (.int .i64 1)), (.c (.int .i64 7))]⟩,⟨some 9, none, .not (.t 8)⟩,⟨some 10, none, .mov (.t 9)⟩,⟨some 11, some (10, false), .addr (.t 1) 1⟩,⟨some 12, some (10, false), .load (.t 11) none⟩,⟨some 13, some (10, false), .len (.t 12)⟩,⟨some 14, some (10, false), .call 38 [(.t 13), (.c (.int .i64 1)), (.c (.int .i64 4))]⟩,⟨some 15, some (10, false), .not (.t 14)⟩,⟨some 16, none, .pick (.t 10) (.c (.bool true)) (.t 15)⟩,⟨some 17, none, .mov (.t 16)⟩,⟨some 18, some (17, false), .addr (.t 1) 2⟩,⟨some 19, some (17, false), .load (.t 18) none⟩,⟨some 20, some (17, false), .call 38 [(.t 19), (.c (.int .i64 1)), (.c (.int .i64 4))]⟩,⟨some 21, some (17, false), .not (.t 20)⟩,⟨some 22, none, .pick (.t 17) (.c (.bool true)) (.t 21)⟩,⟨some 23, none, .mov (.t 22)⟩,⟨some 24, some (23, false), .load (.t 1) (some 5)⟩,⟨some 25, some (23, false), .call 39 [(.t 24)]⟩,⟨some 26, some (23, false), .bin .gtr (.t 25) (.c (.int .i64 8))⟩,⟨some 27, none, .pick (.t 23) (.c (.bool true)) (.t 26)⟩,⟨some 28, none, .mov (.t 27)⟩,⟨some 29, some (28, false), .addr (.t 1) 3⟩,⟨some 30, some (28, false), .load (.t 29) none⟩,⟨some 31, some (28, false), .len (.t 30)⟩,⟨some 32, some (28, false), .bin .gtr (.t 31) (.c (.int .i64 4))⟩,⟨some 33, none, .pick (.t 28) (.c (.bool true)) (.t 32)⟩,⟨some 34, none, .mov (.t 33)⟩,⟨some 35, some (34, false), .addr (.t 1) 4⟩,⟨some 36, some (34, false), .load (.t 35) none⟩,⟨some 37, some (34, false), .len (.t 36)⟩,⟨some 38, some (34, false), .bin .gtr (.t 37) (.c (.int .i64 8))⟩,⟨some 39, none, .pick (.t 34) (.c (.bool true)) (.t 38)⟩])
 (.cond (.t 39) (.seq (.region [⟨some 2, none, .mov (.c (.int .i64 50))⟩])
 (.ret))
 (.skip)))
 (.seq (.seq (.region [⟨some 3, none, .mov (.c (.int .i64 0))⟩])
 (.block 0 (.loop (.seq (.seq (.region [⟨some 40, none, .mov (.t 3)⟩,⟨some 41, none, .addr (.t 1) 1⟩,⟨some 42, none, .load (.t 41) none⟩,⟨some 43, none, .len (.t 42)⟩,⟨some 44, none, .bin .lss (.t 40) (.t 43)⟩])
 (.cond (.t 44) (.skip)
 (.exit 0)))
 (.seq (.block 1 (.seq (.region [⟨some 47, none, .addr (.t 1) 1⟩,⟨some 48, none, .load (.t 47) none⟩,⟨some 49, none, .mov (.t 3)⟩,⟨some 50, none, .idx (.t 48) (.t 49) 1⟩,⟨some 51, none, .load (.t 50) none⟩,⟨some 52, none, .call 38 [(.t 51), (.c (.int .i64 1)), (.c (.int .i64 500))]⟩,⟨some 53, none, .not (.t 52)⟩])
 (.cond (.t 53) (.seq (.region [⟨some 2, none, .mov (.c (.int .i64 50))⟩])
 (.ret))
 (.skip))))
 (.region [⟨some 45, none, .mov (.t 3)⟩,⟨some 46, none, .bin .add (.t 45) (.c (.int .i64 1))⟩,⟨some 3, none, .mov (.t 46)⟩]))))))
 (.seq (.seq (.region [⟨some 4, none, .mov (.c (.int .i64 0))⟩])
 (.block 2 (.loop (.seq (.seq (.region [⟨some 54, none, .mov (.t 4)⟩,⟨some 55, none, .addr (.t 1) 3⟩,⟨some 56, none, .load (.t 55) none⟩,⟨some 57, none, .len (.t 56)⟩,⟨some 58, none, .bin .lss (.t 54) (.t 57)⟩])
 (.cond (.t 58) (.skip)
 (.exit 2)))
 (.seq (.block 3 (.seq (.region [⟨some 61, none, .addr (.t 1) 2⟩,⟨some 62, none, .load (.t 61) none⟩,⟨some 63, none, .addr (.t 1) 3⟩,⟨some 64, none, .load (.t 63) none⟩,⟨some 65, none, .mov (.t 4)⟩,⟨some 66, none, .idx (.t 64) (.t 65) 2⟩,⟨some 67, none, .load (.t 66) (some 2)⟩,⟨some 68, none, .call 40 [(.t 62), (.t 67)]⟩,⟨some 69, none, .not (.t 68)⟩])
 (.cond (.t 69) (.seq (.region [⟨some 2, none, .mov (.c (.int .i64 50))⟩])
 (.ret))
 (.skip))))
 (.region [⟨some 59, none, .mov (.t 4)⟩,⟨some 60, none, .bin .add (.t 59) (.c (.int .i64 1))⟩,⟨some 4, none, .mov (.t 60)⟩]))))))
 (.seq (.seq (.region [⟨some 5, none, .mov (.c (.int .i64 0))⟩])
 (.block 4 (.loop (.seq (.seq (.region [⟨some 70, none, .mov (.t 5)⟩,⟨some 71, none, .addr (.t 1) 4⟩,⟨some 72, none, .load (.t 71) none⟩,⟨some 73, none, .len (.t 72)⟩,⟨some 74, none, .bin .lss (.t 70) (.t 73)⟩])
 (.cond (.t 74) (.skip)
 (.exit 4)))
 (.seq (.block 5 (.seq (.region [⟨some 77, none, .load (.t 1) (some 5)⟩,⟨some 78, none, .addr (.t 1) 4⟩,⟨some 79, none, .load (.t 78) none⟩,⟨some 80, none, .mov (.t 5)⟩,⟨some 81, none, .idx (.t 79) (.t 80) 8⟩,⟨some 82, none, .load (.t 81) (some 8)⟩,⟨some 83, none, .call 41 [(.t 77), (.t 82)]⟩,⟨some 84, none, .not (.t 83)⟩])
 (.cond (.t 84) (.seq (.region [⟨some 2, none, .mov (.c (.int .i64 51))⟩])
 (.ret))
 (.skip))))
 (.region [⟨some 75, none, .mov (.t 5)⟩,⟨some 76, none, .bin .add (.t 75) (.c (.int .i64 1))⟩,⟨some 5, none, .mov (.t 76)⟩]))))))
 (.seq (.region [⟨some 2, none, .mov (.c (.int .i64 0))⟩])
 (.ret))))))
def r15 : List Res := [.t 2]
def a15 : AFn := ⟨1, c15, r15, .v⟩

/-- bijou/week.Broken -/
def c16 : ACode := .seq (.region [⟨some 2, none, .box (.t 0) 5⟩,⟨some 4, none, .mov (.c (.sl [] .tight))⟩,⟨some 5, none, .mov (.c (.int .i64 0))⟩])
 (.seq (.seq (.region [⟨some 10, none, .load (.t 2) (some 5)⟩,⟨some 11, none, .mov (.t 1)⟩,⟨some 12, none, .call 42 [(.t 10), (.t 11)]⟩,⟨some 6, none, .mov (.t 12)⟩])
 (.seq (.region [⟨some 13, none, .mov (.t 6)⟩,⟨some 14, none, .bin .neq (.t 13) (.c (.int .i64 0))⟩])
 (.cond (.t 14) (.seq (.region [⟨some 15, none, .mov (.t 6)⟩,⟨some 4, none, .mov (.c (.sl [] .tight))⟩,⟨some 5, none, .mov (.t 15)⟩])
 (.ret))
 (.skip))))
 (.seq (.region [⟨some 7, none, .mov (.c (.sl [] .tight))⟩])
 (.seq (.seq (.region [⟨some 16, none, .addr (.t 2) 4⟩,⟨some 17, none, .load (.t 16) none⟩,⟨some 18, none, .len (.t 17)⟩,⟨some 19, none, .mov (.c (.int .i64 0))⟩])
 (.block 0 (.loop (.seq (.region [⟨some 20, none, .bin .lss (.t 19) (.t 18)⟩])
 (.seq (.cond (.t 20) (.skip)
 (.exit 0))
 (.seq (.block 1 (.seq (.region [⟨some 21, none, .mov (.t 19)⟩,⟨some 22, none, .idx (.t 17) (.t 19) 8⟩,⟨some 23, none, .load (.t 22) (some 8)⟩,⟨some 9, none, .new (.agg [(.int .i64 0), (.int .i64 0), (.int .i64 0), (.int .i64 0), (.int .i64 0), (.int .i64 0), (.int .i64 0), (.int .i64 0)]) 8⟩,⟨some 8, none, .mov (.t 21)⟩,⟨none, none, .store (.t 9) (.t 23) 8⟩])
 (.seq (.region [⟨some 24, none, .load (.t 2) (some 5)⟩,⟨some 25, none, .load (.t 9) (some 8)⟩,⟨some 26, none, .mov (.t 1)⟩,⟨some 27, none, .addr (.t 9) 1⟩,⟨some 28, none, .load (.t 27) none⟩,⟨some 29, none, .call 44 [(.t 26), (.t 28)]⟩,⟨some 30, none, .call 43 [(.t 24), (.t 25), (.t 29)]⟩,⟨some 31, none, .not (.t 30)⟩])
 (.cond (.t 31) (.region [⟨some 32, none, .mov (.t 7)⟩,⟨some 33, none, .mov (.t 8)⟩,⟨some 34, none, .lit false 3 1 [(.t 33)]⟩,⟨some 35, none, .app false (.t 32) (.t 34) 3 1 8⟩,⟨some 7, none, .mov (.t 35)⟩])
 (.skip)))))
 (.region [⟨some 36, none, .bin .add (.t 19) (.c (.int .i64 1))⟩,⟨some 19, none, .mov (.t 36)⟩])))))))
 (.seq (.region [⟨some 37, none, .mov (.t 7)⟩,⟨some 4, none, .mov (.t 37)⟩,⟨some 5, none, .mov (.c (.int .i64 0))⟩])
 (.ret)))))
def r16 : List Res := [.t 4, .t 5]
def a16 : AFn := ⟨2, c16, r16, .v⟩

/-- bijou/bijouref05.Broken -/
def c17 : ACode := .seq (.region [⟨some 2, none, .box (.t 0) 5⟩,⟨some 4, none, .mov (.c (.sl [] .tight))⟩,⟨some 5, none, .mov (.c (.int .i64 0))⟩])
 (.seq (.seq (.region [⟨some 7, none, .load (.t 2) (some 5)⟩,⟨some 8, none, .mov (.t 1)⟩,⟨some 9, none, .call 45 [(.t 7), (.t 8)]⟩,⟨some 6, none, .mov (.t 9)⟩])
 (.seq (.region [⟨some 10, none, .mov (.t 6)⟩,⟨some 11, none, .bin .neq (.t 10) (.c (.int .i64 0))⟩])
 (.cond (.t 11) (.seq (.region [⟨some 12, none, .mov (.t 6)⟩,⟨some 4, none, .mov (.c (.sl [] .tight))⟩,⟨some 5, none, .mov (.t 12)⟩])
 (.ret))
 (.skip))))
 (.seq (.region [⟨some 13, none, .load (.t 2) (some 5)⟩,⟨some 14, none, .mov (.t 1)⟩,⟨some 15, none, .call 46 [(.t 13), (.t 14)]⟩,⟨some 4, none, .mov (.t 15)⟩,⟨some 5, none, .mov (.c (.int .i64 0))⟩])
 (.ret)))
def r17 : List Res := [.t 4, .t 5]
def a17 : AFn := ⟨2, c17, r17, .v⟩

/-- bijou/week.Takings -/
def c18 : ACode := .seq (.region [⟨some 2, none, .box (.t 0) 5⟩,⟨some 4, none, .mov (.c (.int .i64 0))⟩,⟨some 5, none, .mov (.c (.int .i64 0))⟩])
 (.seq (.seq (.region [⟨some 9, none, .load (.t 2) (some 5)⟩,⟨some 10, none, .mov (.t 1)⟩,⟨some 11, none, .call 42 [(.t 9), (.t 10)]⟩,⟨some 6, none, .mov (.t 11)⟩])
 (.seq (.region [⟨some 12, none, .mov (.t 6)⟩,⟨some 13, none, .bin .neq (.t 12) (.c (.int .i64 0))⟩])
 (.cond (.t 13) (.seq (.region [⟨some 14, none, .mov (.t 6)⟩,⟨some 4, none, .mov (.c (.int .i64 0))⟩,⟨some 5, none, .mov (.t 14)⟩])
 (.ret))
 (.skip))))
 (.seq (.region [⟨some 7, none, .mov (.c (.int .i64 0))⟩])
 (.seq (.seq (.region [⟨some 15, none, .addr (.t 2) 3⟩,⟨some 16, none, .load (.t 15) none⟩,⟨some 17, none, .len (.t 16)⟩,⟨some 18, none, .mov (.c (.int .i64 0))⟩])
 (.block 0 (.loop (.seq (.region [⟨some 19, none, .bin .lss (.t 18) (.t 17)⟩])
 (.seq (.cond (.t 19) (.skip)
 (.exit 0))
 (.seq (.block 1 (.seq (.region [⟨some 20, none, .mov (.t 18)⟩,⟨some 8, none, .mov (.t 20)⟩])
 (.region [⟨some 21, none, .mov (.t 7)⟩,⟨some 22, none, .load (.t 2) (some 5)⟩,⟨some 23, none, .mov (.t 8)⟩,⟨some 24, none, .mov (.t 1)⟩,⟨some 25, none, .mov (.t 8)⟩,⟨some 26, none, .call 44 [(.t 24), (.t 25)]⟩,⟨some 27, none, .call 47 [(.t 22), (.t 23), (.t 26)]⟩,⟨some 28, none, .bin .add (.t 21) (.t 27)⟩,⟨some 7, none, .mov (.t 28)⟩])))
 (.region [⟨some 29, none, .bin .add (.t 18) (.c (.int .i64 1))⟩,⟨some 18, none, .mov (.t 29)⟩])))))))
 (.seq (.region [⟨some 30, none, .mov (.t 7)⟩,⟨some 4, none, .mov (.t 30)⟩,⟨some 5, none, .mov (.c (.int .i64 0))⟩])
 (.ret)))))
def r18 : List Res := [.t 4, .t 5]
def a18 : AFn := ⟨2, c18, r18, .v⟩

/-- bijou/bijouref05.Takings -/
def c19 : ACode := .seq (.region [⟨some 2, none, .box (.t 0) 5⟩,⟨some 4, none, .mov (.c (.int .i64 0))⟩,⟨some 5, none, .mov (.c (.int .i64 0))⟩])
 (.seq (.seq (.region [⟨some 7, none, .load (.t 2) (some 5)⟩,⟨some 8, none, .mov (.t 1)⟩,⟨some 9, none, .call 45 [(.t 7), (.t 8)]⟩,⟨some 6, none, .mov (.t 9)⟩])
 (.seq (.region [⟨some 10, none, .mov (.t 6)⟩,⟨some 11, none, .bin .neq (.t 10) (.c (.int .i64 0))⟩])
 (.cond (.t 11) (.seq (.region [⟨some 12, none, .mov (.t 6)⟩,⟨some 4, none, .mov (.c (.int .i64 0))⟩,⟨some 5, none, .mov (.t 12)⟩])
 (.ret))
 (.skip))))
 (.seq (.region [⟨some 13, none, .load (.t 2) (some 5)⟩,⟨some 14, none, .mov (.t 1)⟩,⟨some 15, none, .call 48 [(.t 13), (.t 14)]⟩,⟨some 4, none, .mov (.t 15)⟩,⟨some 5, none, .mov (.c (.int .i64 0))⟩])
 (.ret)))
def r19 : List Res := [.t 4, .t 5]
def a19 : AFn := ⟨2, c19, r19, .v⟩

/-- bijou/bijoulaw05.sameInts -/
def c20 : ACode := .seq (.region [⟨some 4, none, .mov (.c (.bool false))⟩])
 (.seq (.seq (.region [⟨some 6, none, .mov (.t 0)⟩,⟨some 7, none, .len (.t 6)⟩,⟨some 8, none, .mov (.t 1)⟩,⟨some 9, none, .len (.t 8)⟩,⟨some 10, none, .bin .neq (.t 7) (.t 9)⟩])
 (.cond (.t 10) (.seq (.region [⟨some 4, none, .mov (.c (.bool false))⟩])
 (.ret))
 (.skip)))
 (.seq (.seq (.region [⟨some 5, none, .mov (.c (.int .i64 0))⟩])
 (.block 0 (.loop (.seq (.seq (.region [⟨some 11, none, .mov (.t 5)⟩,⟨some 12, none, .mov (.t 0)⟩,⟨some 13, none, .len (.t 12)⟩,⟨some 14, none, .bin .lss (.t 11) (.t 13)⟩])
 (.cond (.t 14) (.skip)
 (.exit 0)))
 (.seq (.block 1 (.seq (.region [⟨some 17, none, .mov (.t 0)⟩,⟨some 18, none, .mov (.t 5)⟩,⟨some 19, none, .idx (.t 17) (.t 18) 1⟩,⟨some 20, none, .load (.t 19) none⟩,⟨some 21, none, .mov (.t 1)⟩,⟨some 22, none, .mov (.t 5)⟩,⟨some 23, none, .idx (.t 21) (.t 22) 1⟩,⟨some 24, none, .load (.t 23) none⟩,⟨some 25, none, .bin .neq (.t 20) (.t 24)⟩])
 (.cond (.t 25) (.seq (.region [⟨some 4, none, .mov (.c (.bool false))⟩])
 (.ret))
 (.skip))))
 (.region [⟨some 15, none, .mov (.t 5)⟩,⟨some 16, none, .bin .add (.t 15) (.c (.int .i64 1))⟩,⟨some 5, none, .mov (.t 16)⟩]))))))
 (.seq (.region [⟨some 4, none, .mov (.c (.bool true))⟩])
 (.ret))))
def r20 : List Res := [.t 4]
def a20 : AFn := ⟨2, c20, r20, .v⟩

/-- bijou/bijoulaw05.Far -/
def c21 : ACode := .seq (.region [⟨some 1, none, .box (.t 0) 5⟩,⟨some 2, none, .mov (.c (.bool false))⟩])
 (.seq (.seq (.region [⟨some 5, none, .addr (.t 1) 1⟩,⟨some 6, none, .load (.t 5) none⟩,⟨some 7, none, .len (.t 6)⟩,⟨some 8, none, .bin .gtr (.t 7) (.c (.int .i64 20))⟩,⟨some 9, none, .mov (.t 8)⟩,⟨some 10, some (9, false), .addr (.t 1) 3⟩,⟨some 11, some (9, false), .load (.t 10) none⟩,⟨some 12, some (9, false), .len (.t 11)⟩,⟨some 13, some (9, false), .bin .gtr (.t 12) (.c (.int .i64 20))⟩,⟨some 14, none, .pick (.t 9) (.c (.bool true)) (.t 13)⟩,⟨some 15, none, .mov (.t 14)⟩,⟨some 16, some (15, false), .addr (.t 1) 4⟩,⟨some 17, some (15, false), .load (.t 16) none⟩,⟨some 18, some (15, false), .len (.t 17)⟩,⟨some 19, some (15, false), .bin .gtr (.t 18) (.c (.int .i64 20))⟩,⟨some 20, none, .pick (.t 15) (.c (.bool true)) (.t 19)⟩])
 (.cond (.t 20) (.seq (.region [⟨some 2, none, .mov (.c (.bool true))⟩])
 (.ret))
 (.skip)))
 (.seq (.seq (.region [⟨some 21, none, .load (.t 1) (some 5)⟩,⟨some 22, none, .call 15 [(.t 21)]⟩,⟨some 23, none, .bin .neq (.t 22) (.c (.int .i64 0))⟩])
 (.cond (.t 23) (.seq (.region [⟨some 2, none, .mov (.c (.bool false))⟩])
 (.ret))
 (.skip)))
 (.seq (.region [⟨some 3, none, .mov (.c (.int .i64 1))⟩])
 (.seq (.seq (.region [⟨some 4, none, .mov (.c (.int .i64 0))⟩])
 (.block 0 (.loop (.seq (.seq (.region [⟨some 24, none, .mov (.t 4)⟩,⟨some 25, none, .load (.t 1) (some 5)⟩,⟨some 26, none, .call 39 [(.t 25)]⟩,⟨some 27, none, .bin .lss (.t 24) (.t 26)⟩,⟨some 28, none, .mov (.t 27)⟩,⟨some 29, some (28, true), .mov (.t 3)⟩,⟨some 30, some (28, true), .bin .leq (.t 29) (.c (.int .i64 800))⟩,⟨some 31, none, .pick (.t 28) (.t 30) (.c (.bool false))⟩])
 (.cond (.t 31) (.skip)
 (.exit 0)))
 (.seq (.block 1 (.region [⟨some 34, none, .mov (.t 3)⟩,⟨some 35, none, .addr (.t 1) 3⟩,⟨some 36, none, .load (.t 35) none⟩,⟨some 37, none, .len (.t 36)⟩,⟨some 38, none, .bin .add (.t 37) (.c (.int .i64 1))⟩,⟨some 39, none, .bin .mul (.t 34) (.t 38)⟩,⟨some 3, none, .mov (.t 39)⟩]))
 (.region [⟨some 32, none, .mov (.t 4)⟩,⟨some 33, none, .bin .add (.t 32) (.c (.int .i64 1))⟩,⟨some 4, none, .mov (.t 33)⟩]))))))
 (.seq (.region [⟨some 40, none, .mov (.t 3)⟩,⟨some 41, none, .bin .gtr (.t 40) (.c (.int .i64 800))⟩,⟨some 2, none, .mov (.t 41)⟩])
 (.ret))))))
def r21 : List Res := [.t 2]
def a21 : AFn := ⟨1, c21, r21, .v⟩

/-- bijou/week.Most -/
def c22 : ACode := .seq (.region [⟨some 1, none, .box (.t 0) 5⟩,⟨some 2, none, .mov (.c (.int .i64 0))⟩,⟨some 3, none, .mov (.c (.int .i64 0))⟩])
 (.seq (.region [⟨some 7, none, .load (.t 1) (some 5)⟩,⟨some 8, none, .call 49 [(.t 7)]⟩,⟨some 6, none, .mov (.t 8)⟩,⟨some 9, none, .ext (.t 6) 0⟩,⟨some 10, none, .ext (.t 6) 1⟩,⟨some 4, none, .new (.agg [(.int .i64 0), (.int .u64 0), (.int .u64 0), (.int .u64 0), (.int .u64 0), (.int .u64 0), (.int .u64 0)]) 7⟩,⟨none, none, .store (.t 4) (.t 9) 7⟩,⟨some 5, none, .mov (.t 10)⟩])
 (.seq (.region [⟨some 11, none, .addr (.t 4) 0⟩,⟨some 12, none, .addr (.t 11) 0⟩,⟨some 13, none, .load (.t 12) none⟩,⟨some 14, none, .mov (.t 5)⟩,⟨some 2, none, .mov (.t 13)⟩,⟨some 3, none, .mov (.t 14)⟩])
 (.ret)))
def r22 : List Res := [.t 2, .t 3]
def a22 : AFn := ⟨1, c22, r22, .v⟩

/-- bijou/bijouref05.Most -/
def c23 : ACode := .seq (.region [⟨some 1, none, .box (.t 0) 5⟩,⟨some 2, none, .mov (.c (.int .i64 0))⟩,⟨some 3, none, .mov (.c (.int .i64 0))⟩])
 (.seq (.seq (.region [⟨some 6, none, .load (.t 1) (some 5)⟩,⟨some 7, none, .call 15 [(.t 6)]⟩,⟨some 4, none, .mov (.t 7)⟩])
 (.seq (.region [⟨some 8, none, .mov (.t 4)⟩,⟨some 9, none, .bin .neq (.t 8) (.c (.int .i64 0))⟩])
 (.cond (.t 9) (.seq (.region [⟨some 10, none, .mov (.t 4)⟩,⟨some 2, none, .mov (.c (.int .i64 0))⟩,⟨some 3, none, .mov (.t 10)⟩])
 (.ret))
 (.skip))))
 (.seq (.region [⟨some 11, none, .load (.t 1) (some 5)⟩,⟨some 12, none, .call 50 [(.t 11)]⟩,⟨some 5, none, .mov (.t 12)⟩])
 (.seq (.seq (.region [⟨some 13, none, .mov (.t 5)⟩,⟨some 14, none, .bin .lss (.t 13) (.c (.int .i64 0))⟩])
 (.cond (.t 14) (.seq (.region [⟨some 2, none, .mov (.c (.int .i64 0))⟩,⟨some 3, none, .mov (.c (.int .i64 3))⟩])
 (.ret))
 (.skip)))
 (.seq (.region [⟨some 15, none, .mov (.t 5)⟩,⟨some 2, none, .mov (.t 15)⟩,⟨some 3, none, .mov (.c (.int .i64 0))⟩])
 (.ret)))))
def r23 : List Res := [.t 2, .t 3]
def a23 : AFn := ⟨1, c23, r23, .v⟩

/-- bijou/week.Clash -/
def c24 : ACode := .seq (.region [⟨some 1, none, .boxf (.t 0) 5⟩,⟨some 2, none, .mov (.c (.sl [] .tight))⟩,⟨some 3, none, .mov (.c (.int .i64 0))⟩])
 (.seq (.seq (.region [⟨some 7, none, .load (.t 1) (some 5)⟩,⟨some 8, none, .call 14 [(.t 7)]⟩,⟨some 4, none, .mov (.t 8)⟩])
 (.seq (.region [⟨some 9, none, .mov (.t 4)⟩,⟨some 10, none, .bin .neq (.t 9) (.c (.int .i64 0))⟩])
 (.cond (.t 10) (.seq (.region [⟨some 11, none, .mov (.t 4)⟩,⟨some 2, none, .mov (.c (.sl [] .tight))⟩,⟨some 3, none, .mov (.t 11)⟩])
 (.ret))
 (.skip))))
 (.seq (.regionD [⟨some 13, none, .load (.t 1) (some 5)⟩,⟨some 15, none, .load (.t 1) (some 5)⟩,⟨some 14, none, .call 51 [(.t 13)]⟩,⟨some 16, none, .call 53 [(.t 15)]⟩,⟨some 17, none, .call 52 [(.t 14), (.t 16)]⟩,⟨some 12, none, .mov (.t 17)⟩,⟨some 18, none, .ext (.t 12) 0⟩,⟨some 19, none, .ext (.t 12) 1⟩,⟨some 5, none, .mov (.t 18)⟩,⟨some 6, none, .mov (.t 19)⟩] [(1, 1)])
 (.seq (.seq (.region [⟨some 20, none, .mov (.t 6)⟩,⟨some 21, none, .not (.t 20)⟩])
 (.cond (.t 21) (.seq (.region [⟨some 2, none, .mov (.c (.sl [] .tight))⟩,⟨some 3, none, .mov (.c (.int .i64 3))⟩])
 (.ret))
 (.skip)))
 (.seq (.region [⟨some 22, none, .mov (.t 5)⟩,⟨some 2, none, .mov (.t 22)⟩,⟨some 3, none, .mov (.c (.int .i64 0))⟩])
 (.ret)))))
def r24 : List Res := [.t 2, .t 3]
def a24 : AFn := ⟨1, c24, r24, .v⟩

/-- bijou/bijouref05.Clash -/
def c25 : ACode := .seq (.region [⟨some 1, none, .box (.t 0) 5⟩,⟨some 2, none, .mov (.c (.sl [] .tight))⟩,⟨some 3, none, .mov (.c (.int .i64 0))⟩])
 (.seq (.seq (.region [⟨some 11, none, .load (.t 1) (some 5)⟩,⟨some 12, none, .call 15 [(.t 11)]⟩,⟨some 4, none, .mov (.t 12)⟩])
 (.seq (.region [⟨some 13, none, .mov (.t 4)⟩,⟨some 14, none, .bin .neq (.t 13) (.c (.int .i64 0))⟩])
 (.cond (.t 14) (.seq (.region [⟨some 15, none, .mov (.t 4)⟩,⟨some 2, none, .mov (.c (.sl [] .tight))⟩,⟨some 3, none, .mov (.t 15)⟩])
 (.ret))
 (.skip))))
 (.seq (.region [⟨some 16, none, .load (.t 1) (some 5)⟩,⟨some 17, none, .call 54 [(.t 16)]⟩,⟨some 5, none, .mov (.t 17)⟩])
 (.seq (.region [⟨some 6, none, .mov (.c (.sl [] .tight))⟩])
 (.seq (.seq (.region [⟨some 7, none, .mov (.c (.int .i64 1))⟩])
 (.block 0 (.loop (.seq (.seq (.region [⟨some 18, none, .mov (.t 7)⟩,⟨some 19, none, .addr (.t 1) 4⟩,⟨some 20, none, .load (.t 19) none⟩,⟨some 21, none, .len (.t 20)⟩,⟨some 22, none, .conv .u64 (.t 21)⟩,⟨some 23, none, .bin .shl (.c (.int .i64 1)) (.t 22)⟩,⟨some 24, none, .bin .lss (.t 18) (.t 23)⟩])
 (.cond (.t 24) (.skip)
 (.exit 0)))
 (.seq (.block 1 (.seq (.region [⟨some 8, none, .mov (.c (.bool false))⟩])
 (.seq (.seq (.region [⟨some 9, none, .mov (.c (.int .i64 0))⟩])
 (.block 2 (.loop (.seq (.seq (.region [⟨some 27, none, .mov (.t 9)⟩,⟨some 28, none, .mov (.t 5)⟩,⟨some 29, none, .len (.t 28)⟩,⟨some 30, none, .bin .lss (.t 27) (.t 29)⟩])
 (.cond (.t 30) (.skip)
 (.exit 2)))
 (.seq (.block 3 (.region [⟨some 33, none, .mov (.t 8)⟩,⟨some 34, none, .mov (.t 33)⟩,⟨some 35, some (34, false), .mov (.t 7)⟩,⟨some 36, some (34, false), .mov (.t 5)⟩,⟨some 37, some (34, false), .mov (.t 9)⟩,⟨some 38, some (34, false), .idx (.t 36) (.t 37) 1⟩,⟨some 39, some (34, false), .load (.t 38) none⟩,⟨some 40, some (34, false), .bin .andNot (.t 35) (.t 39)⟩,⟨some 41, some (34, false), .bin .eql (.t 40) (.c (.int .i64 0))⟩,⟨some 42, none, .pick (.t 34) (.c (.bool true)) (.t 41)⟩,⟨some 8, none, .mov (.t 42)⟩]))
 (.region [⟨some 31, none, .mov (.t 9)⟩,⟨some 32, none, .bin .add (.t 31) (.c (.int .i64 1))⟩,⟨some 9, none, .mov (.t 32)⟩]))))))
 (.seq (.region [⟨some 43, none, .mov (.t 7)⟩,⟨some 44, none, .call 55 [(.t 43)]⟩,⟨some 10, none, .mov (.t 44)⟩])
 (.seq (.region [⟨some 45, none, .mov (.t 8)⟩,⟨some 46, none, .not (.t 45)⟩,⟨some 47, none, .mov (.t 46)⟩,⟨some 48, some (47, true), .mov (.t 6)⟩,⟨some 49, some (47, true), .len (.t 48)⟩,⟨some 50, some (47, true), .bin .eql (.t 49) (.c (.int .i64 0))⟩,⟨some 51, some (47, true), .mov (.t 50)⟩,⟨some 52, some (51, false), .mov (.t 10)⟩,⟨some 53, some (51, false), .mov (.t 6)⟩,⟨some 54, some (51, false), .call 56 [(.t 52), (.t 53)]⟩,⟨some 55, some (47, true), .pick (.t 51) (.c (.bool true)) (.t 54)⟩,⟨some 56, none, .pick (.t 47) (.t 55) (.c (.bool false))⟩])
 (.cond (.t 56) (.region [⟨some 57, none, .mov (.t 10)⟩,⟨some 6, none, .mov (.t 57)⟩])
 (.skip)))))))
 (.region [⟨some 25, none, .mov (.t 7)⟩,⟨some 26, none, .bin .add (.t 25) (.c (.int .i64 1))⟩,⟨some 7, none, .mov (.t 26)⟩]))))))
 (.seq (.seq (.region [⟨some 58, none, .mov (.t 6)⟩,⟨some 59, none, .len (.t 58)⟩,⟨some 60, none, .bin .eql (.t 59) (.c (.int .i64 0))⟩])
 (.cond (.t 60) (.seq (.region [⟨some 2, none, .mov (.c (.sl [] .tight))⟩,⟨some 3, none, .mov (.c (.int .i64 3))⟩])
 (.ret))
 (.skip)))
 (.seq (.region [⟨some 61, none, .mov (.t 6)⟩,⟨some 2, none, .mov (.t 61)⟩,⟨some 3, none, .mov (.c (.int .i64 0))⟩])
 (.ret)))))))
def r25 : List Res := [.t 2, .t 3]
def a25 : AFn := ⟨1, c25, r25, .v⟩

/-- bijou/week.Cost -/
def c26 : ACode := .seq (.region [⟨some 2, none, .box (.t 0) 5⟩,⟨some 4, none, .mov (.c (.int .i64 0))⟩,⟨some 5, none, .mov (.c (.int .i64 0))⟩])
 (.seq (.seq (.region [⟨some 12, none, .load (.t 2) (some 5)⟩,⟨some 13, none, .call 14 [(.t 12)]⟩,⟨some 6, none, .mov (.t 13)⟩])
 (.seq (.region [⟨some 14, none, .mov (.t 6)⟩,⟨some 15, none, .bin .neq (.t 14) (.c (.int .i64 0))⟩])
 (.cond (.t 15) (.seq (.region [⟨some 16, none, .mov (.t 6)⟩,⟨some 4, none, .mov (.c (.int .i64 0))⟩,⟨some 5, none, .mov (.t 16)⟩])
 (.ret))
 (.skip))))
 (.seq (.seq (.region [⟨some 17, none, .mov (.t 1)⟩,⟨some 18, none, .addr (.t 2) 4⟩,⟨some 19, none, .load (.t 18) none⟩,⟨some 20, none, .len (.t 19)⟩,⟨some 21, none, .bin .sub (.t 20) (.c (.int .i64 1))⟩,⟨some 22, none, .call 57 [(.t 17), (.c (.int .i64 0)), (.t 21)]⟩,⟨some 23, none, .not (.t 22)⟩])
 (.cond (.t 23) (.seq (.region [⟨some 4, none, .mov (.c (.int .i64 0))⟩,⟨some 5, none, .mov (.c (.int .i64 1))⟩])
 (.ret))
 (.skip)))
 (.seq (.region [⟨some 24, none, .load (.t 2) (some 5)⟩,⟨some 25, none, .call 51 [(.t 24)]⟩,⟨some 7, none, .mov (.t 25)⟩])
 (.seq (.region [⟨some 27, none, .mov (.t 7)⟩,⟨some 28, none, .load (.t 2) (some 5)⟩,⟨some 29, none, .call 53 [(.t 28)]⟩,⟨some 30, none, .call 58 [(.t 27), (.t 29)]⟩,⟨some 26, none, .mov (.t 30)⟩,⟨some 31, none, .ext (.t 26) 0⟩,⟨some 32, none, .ext (.t 26) 1⟩,⟨some 8, none, .mov (.t 31)⟩,⟨some 9, none, .mov (.t 32)⟩])
 (.seq (.seq (.region [⟨some 33, none, .mov (.t 9)⟩,⟨some 34, none, .not (.t 33)⟩])
 (.cond (.t 34) (.seq (.region [⟨some 4, none, .mov (.c (.int .i64 0))⟩,⟨some 5, none, .mov (.c (.int .i64 3))⟩])
 (.ret))
 (.skip)))
 (.seq (.region [⟨some 36, none, .mov (.t 7)⟩,⟨some 37, none, .load (.t 2) (some 5)⟩,⟨some 38, none, .call 53 [(.t 37)]⟩,⟨some 39, none, .mov (.t 1)⟩,⟨some 40, none, .call 59 [(.t 38), (.t 39)]⟩,⟨some 41, none, .call 58 [(.t 36), (.t 40)]⟩,⟨some 35, none, .mov (.t 41)⟩,⟨some 42, none, .ext (.t 35) 0⟩,⟨some 43, none, .ext (.t 35) 1⟩,⟨some 10, none, .mov (.t 42)⟩,⟨some 11, none, .mov (.t 43)⟩])
 (.seq (.region [⟨some 44, none, .mov (.t 10)⟩,⟨some 45, none, .mov (.t 8)⟩,⟨some 46, none, .bin .sub (.t 44) (.t 45)⟩,⟨some 4, none, .mov (.t 46)⟩,⟨some 5, none, .mov (.c (.int .i64 0))⟩])
 (.ret))))))))
def r26 : List Res := [.t 4, .t 5]
def a26 : AFn := ⟨2, c26, r26, .v⟩

/-- bijou/bijouref05.Cost -/
def c27 : ACode := .seq (.region [⟨some 2, none, .box (.t 0) 5⟩,⟨some 4, none, .mov (.c (.int .i64 0))⟩,⟨some 5, none, .mov (.c (.int .i64 0))⟩])
 (.seq (.seq (.region [⟨some 8, none, .load (.t 2) (some 5)⟩,⟨some 9, none, .call 15 [(.t 8)]⟩,⟨some 6, none, .mov (.t 9)⟩])
 (.seq (.region [⟨some 10, none, .mov (.t 6)⟩,⟨some 11, none, .bin .neq (.t 10) (.c (.int .i64 0))⟩])
 (.cond (.t 11) (.seq (.region [⟨some 12, none, .mov (.t 6)⟩,⟨some 4, none, .mov (.c (.int .i64 0))⟩,⟨some 5, none, .mov (.t 12)⟩])
 (.ret))
 (.skip))))
 (.seq (.seq (.region [⟨some 13, none, .mov (.t 1)⟩,⟨some 14, none, .addr (.t 2) 4⟩,⟨some 15, none, .load (.t 14) none⟩,⟨some 16, none, .len (.t 15)⟩,⟨some 17, none, .bin .sub (.t 16) (.c (.int .i64 1))⟩,⟨some 18, none, .call 38 [(.t 13), (.c (.int .i64 0)), (.t 17)]⟩,⟨some 19, none, .not (.t 18)⟩])
 (.cond (.t 19) (.seq (.region [⟨some 4, none, .mov (.c (.int .i64 0))⟩,⟨some 5, none, .mov (.c (.int .i64 1))⟩])
 (.ret))
 (.skip)))
 (.seq (.region [⟨some 20, none, .load (.t 2) (some 5)⟩,⟨some 21, none, .call 50 [(.t 20)]⟩,⟨some 7, none, .mov (.t 21)⟩])
 (.seq (.seq (.region [⟨some 22, none, .mov (.t 7)⟩,⟨some 23, none, .bin .lss (.t 22) (.c (.int .i64 0))⟩])
 (.cond (.t 23) (.seq (.region [⟨some 4, none, .mov (.c (.int .i64 0))⟩,⟨some 5, none, .mov (.c (.int .i64 3))⟩])
 (.ret))
 (.skip)))
 (.seq (.region [⟨some 24, none, .load (.t 2) (some 5)⟩,⟨some 25, none, .mov (.t 1)⟩,⟨some 26, none, .call 32 [(.t 24), (.t 25)]⟩,⟨some 27, none, .call 50 [(.t 26)]⟩,⟨some 28, none, .mov (.t 7)⟩,⟨some 29, none, .bin .sub (.t 27) (.t 28)⟩,⟨some 4, none, .mov (.t 29)⟩,⟨some 5, none, .mov (.c (.int .i64 0))⟩])
 (.ret))))))
def r27 : List Res := [.t 4, .t 5]
def a27 : AFn := ⟨2, c27, r27, .v⟩

/-- bijou/week.Best -/
def c28 : ACode := .seq (.region [⟨some 1, none, .box (.t 0) 5⟩,⟨some 2, none, .mov (.c (.sl [] .tight))⟩,⟨some 3, none, .mov (.c (.int .i64 0))⟩])
 (.seq (.region [⟨some 7, none, .load (.t 1) (some 5)⟩,⟨some 8, none, .call 49 [(.t 7)]⟩,⟨some 6, none, .mov (.t 8)⟩,⟨some 9, none, .ext (.t 6) 0⟩,⟨some 10, none, .ext (.t 6) 1⟩,⟨some 4, none, .new (.agg [(.int .i64 0), (.int .u64 0), (.int .u64 0), (.int .u64 0), (.int .u64 0), (.int .u64 0), (.int .u64 0)]) 7⟩,⟨none, none, .store (.t 4) (.t 9) 7⟩,⟨some 5, none, .mov (.t 10)⟩])
 (.seq (.seq (.region [⟨some 11, none, .mov (.t 5)⟩,⟨some 12, none, .bin .neq (.t 11) (.c (.int .i64 0))⟩])
 (.cond (.t 12) (.seq (.region [⟨some 13, none, .mov (.t 5)⟩,⟨some 2, none, .mov (.c (.sl [] .tight))⟩,⟨some 3, none, .mov (.t 13)⟩])
 (.ret))
 (.skip)))
 (.seq (.region [⟨some 14, none, .load (.t 4) (some 7)⟩,⟨some 15, none, .load (.t 1) (some 5)⟩,⟨some 16, none, .call 61 [(.t 15)]⟩,⟨some 17, none, .call 60 [(.t 14), (.t 16)]⟩,⟨some 2, none, .mov (.t 17)⟩,⟨some 3, none, .mov (.c (.int .i64 0))⟩])
 (.ret))))
def r28 : List Res := [.t 2, .t 3]
def a28 : AFn := ⟨1, c28, r28, .v⟩

/-- bijou/bijouref05.IsProgram -/
def c29 : ACode := .seq (.region [⟨some 2, none, .box (.t 0) 5⟩,⟨some 4, none, .mov (.c (.bool false))⟩])
 (.seq (.seq (.region [⟨some 5, none, .mov (.c (.int .i64 0))⟩])
 (.block 0 (.loop (.seq (.seq (.region [⟨some 6, none, .mov (.t 5)⟩,⟨some 7, none, .mov (.t 1)⟩,⟨some 8, none, .len (.t 7)⟩,⟨some 9, none, .bin .lss (.t 6) (.t 8)⟩])
 (.cond (.t 9) (.skip)
 (.exit 0)))
 (.seq (.block 1 (.seq (.region [⟨some 12, none, .mov (.t 1)⟩,⟨some 13, none, .mov (.t 5)⟩,⟨some 14, none, .idx (.t 12) (.t 13) 1⟩,⟨some 15, none, .load (.t 14) none⟩,⟨some 16, none, .addr (.t 2) 3⟩,⟨some 17, none, .load (.t 16) none⟩,⟨some 18, none, .len (.t 17)⟩,⟨some 19, none, .bin .sub (.t 18) (.c (.int .i64 1))⟩,⟨some 20, none, .call 38 [(.t 15), (.c (.int .i64 (-1))), (.t 19)]⟩,⟨some 21, none, .not (.t 20)⟩])
 (.cond (.t 21) (.seq (.region [⟨some 4, none, .mov (.c (.bool false))⟩])
 (.ret))
 (.skip))))
 (.region [⟨some 10, none, .mov (.t 5)⟩,⟨some 11, none, .bin .add (.t 10) (.c (.int .i64 1))⟩,⟨some 5, none, .mov (.t 11)⟩]))))))
 (.seq (.region [⟨some 22, none, .mov (.t 1)⟩,⟨some 23, none, .len (.t 22)⟩,⟨some 24, none, .load (.t 2) (some 5)⟩,⟨some 25, none, .call 39 [(.t 24)]⟩,⟨some 26, none, .bin .eql (.t 23) (.t 25)⟩,⟨some 4, none, .mov (.t 26)⟩])
 (.ret)))
def r29 : List Res := [.t 4]
def a29 : AFn := ⟨2, c29, r29, .v⟩

/-- bijou/bijoulaw05.ready -/
def c30 : ACode := .seq (.region [⟨some 1, none, .box (.t 0) 5⟩,⟨some 2, none, .mov (.c (.bool false))⟩])
 (.seq (.region [⟨some 3, none, .load (.t 1) (some 5)⟩,⟨some 4, none, .call 11 [(.t 3)]⟩,⟨some 5, none, .not (.t 4)⟩,⟨some 6, none, .mov (.t 5)⟩,⟨some 7, some (6, true), .load (.t 1) (some 5)⟩,⟨some 8, some (6, true), .call 21 [(.t 7)]⟩,⟨some 9, some (6, true), .not (.t 8)⟩,⟨some 10, none, .pick (.t 6) (.t 9) (.c (.bool false))⟩,⟨some 11, none, .mov (.t 10)⟩,⟨some 12, some (11, true), .load (.t 1) (some 5)⟩,⟨some 13, some (11, true), .call 15 [(.t 12)]⟩,⟨some 14, some (11, true), .bin .eql (.t 13) (.c (.int .i64 0))⟩,⟨some 15, none, .pick (.t 11) (.t 14) (.c (.bool false))⟩,⟨some 2, none, .mov (.t 15)⟩])
 (.ret))
def r30 : List Res := [.t 2]
def a30 : AFn := ⟨1, c30, r30, .v⟩

/-- bijou/bijoulaw05.only -/
def c31 : ACode := .seq (.region [⟨some 2, none, .boxf (.t 0) 5⟩,⟨some 4, none, .new (.agg [(.int .i64 0), (.sl [] .tight), (.int .i64 0), (.sl [] .tight), (.sl [] .tight)]) 5⟩])
 (.seq (.region [⟨some 7, none, .load (.t 2) (some 5)⟩,⟨some 8, none, .call 13 [(.t 7)]⟩,⟨some 5, none, .new (.agg [(.int .i64 0), (.sl [] .tight), (.int .i64 0), (.sl [] .tight), (.sl [] .tight)]) 5⟩,⟨none, none, .store (.t 5) (.t 8) 5⟩])
 (.seq (.region [⟨some 9, none, .addr (.t 5) 4⟩,⟨none, none, .store (.t 9) (.c (.sl [] .tight)) 1⟩])
 (.seq (.seq (.region [⟨some 6, none, .mov (.c (.int .i64 0))⟩])
 (.block 0 (.loop (.seq (.seq (.region [⟨some 10, none, .mov (.t 6)⟩,⟨some 11, none, .mov (.t 1)⟩,⟨some 12, none, .len (.t 11)⟩,⟨some 13, none, .bin .lss (.t 10) (.t 12)⟩])
 (.cond (.t 13) (.skip)
 (.exit 0)))
 (.seq (.block 1 (.region [⟨some 16, none, .addr (.t 5) 4⟩,⟨some 17, none, .load (.t 16) none⟩,⟨some 18, none, .addr (.t 2) 4⟩,⟨some 19, none, .load (.t 18) none⟩,⟨some 20, none, .mov (.t 1)⟩,⟨some 21, none, .mov (.t 6)⟩,⟨some 22, none, .idx (.t 20) (.t 21) 1⟩,⟨some 23, none, .load (.t 22) none⟩,⟨some 24, none, .idx (.t 19) (.t 23) 8⟩,⟨some 25, none, .load (.t 24) (some 8)⟩,⟨some 26, none, .lit true 47 8 [(.t 25)]⟩,⟨some 27, none, .app true (.t 17) (.t 26) 47 8 64⟩,⟨some 28, none, .addr (.t 5) 4⟩,⟨none, none, .store (.t 28) (.t 27) 1⟩]))
 (.region [⟨some 14, none, .mov (.t 6)⟩,⟨some 15, none, .bin .add (.t 14) (.c (.int .i64 1))⟩,⟨some 6, none, .mov (.t 15)⟩]))))))
 (.seq (.region [⟨some 29, none, .load (.t 5) (some 5)⟩,⟨none, none, .store (.t 4) (.t 29) 5⟩])
 (.ret)))))
def r31 : List Res := [.cell 4 (some 5)]
def a31 : AFn := ⟨2, c31, r31, .o⟩

/-- bijou/bijouref05.Without -/
def c32 : ACode := .seq (.region [⟨some 2, none, .box (.t 0) 5⟩,⟨some 4, none, .new (.agg [(.int .i64 0), (.sl [] .tight), (.int .i64 0), (.sl [] .tight), (.sl [] .tight)]) 5⟩])
 (.seq (.region [⟨some 6, none, .load (.t 2) (some 5)⟩,⟨some 7, none, .callf 13 [(.t 6)]⟩,⟨some 5, none, .new (.agg [(.int .i64 0), (.sl [] .tight), (.int .i64 0), (.sl [] .tight), (.sl [] .tight)]) 5⟩,⟨none, none, .store (.t 5) (.t 7) 5⟩])
 (.seq (.region [⟨some 8, none, .lit false 47 8 []⟩,⟨some 9, none, .addr (.t 2) 4⟩,⟨some 10, none, .load (.t 9) none⟩,⟨some 11, none, .mov (.t 1)⟩,⟨some 12, none, .slice (.t 10) none (some (.t 11)) 8⟩,⟨some 14, none, .addr (.t 2) 4⟩,⟨some 15, none, .load (.t 14) none⟩,⟨some 16, none, .mov (.t 1)⟩,⟨some 17, none, .bin .add (.t 16) (.c (.int .i64 1))⟩,⟨some 18, none, .slice (.t 15) (some (.t 17)) none 8⟩,⟨some 13, none, .app0 (.t 8) (.t 12) 47 8 64⟩,⟨some 19, none, .app true (.t 13) (.t 18) 47 8 64⟩,⟨some 20, none, .addr (.t 5) 4⟩,⟨none, none, .store (.t 20) (.t 19) 1⟩])
 (.seq (.region [⟨some 21, none, .load (.t 5) (some 5)⟩,⟨none, none, .store (.t 4) (.t 21) 5⟩])
 (.ret))))
def r32 : List Res := [.cell 4 (some 5)]
def a32 : AFn := ⟨2, c32, r32, .v⟩

/-- bijou/bijouref05.Slot -/
def c33 : ACode := .seq (.region [⟨some 4, none, .box (.t 0) 5⟩,⟨some 8, none, .mov (.c (.int .i64 0))⟩])
 (.seq (.region [⟨some 9, none, .mov (.t 1)⟩,⟨some 10, none, .addr (.t 4) 1⟩,⟨some 11, none, .load (.t 10) none⟩,⟨some 12, none, .len (.t 11)⟩,⟨some 13, none, .bin .mul (.t 9) (.t 12)⟩,⟨some 14, none, .mov (.t 2)⟩,⟨some 15, none, .bin .add (.t 13) (.t 14)⟩,⟨some 16, none, .addr (.t 4) 2⟩,⟨some 17, none, .load (.t 16) none⟩,⟨some 18, none, .bin .mul (.t 15) (.t 17)⟩,⟨some 19, none, .mov (.t 3)⟩,⟨some 20, none, .bin .add (.t 18) (.t 19)⟩,⟨some 8, none, .mov (.t 20)⟩])
 (.ret))
def r33 : List Res := [.t 8]
def a33 : AFn := ⟨4, c33, r33, .v⟩

/-- bijou/bijoulaw05.kept -/
def c34 : ACode := .seq (.region [⟨some 4, none, .box (.t 0) 5⟩,⟨some 8, none, .mov (.c (.bool false))⟩])
 (.seq (.region [⟨some 14, none, .load (.t 4) (some 5)⟩,⟨some 15, none, .mov (.t 1)⟩,⟨some 16, none, .call 16 [(.t 14), (.t 15)]⟩,⟨some 13, none, .mov (.t 16)⟩,⟨some 17, none, .ext (.t 13) 0⟩,⟨some 18, none, .ext (.t 13) 1⟩,⟨some 9, none, .mov (.t 17)⟩,⟨some 10, none, .mov (.t 18)⟩])
 (.seq (.region [⟨some 20, none, .load (.t 4) (some 5)⟩,⟨some 21, none, .mov (.t 1)⟩,⟨some 22, none, .call 18 [(.t 20), (.t 21)]⟩,⟨some 19, none, .mov (.t 22)⟩,⟨some 23, none, .ext (.t 19) 0⟩,⟨some 24, none, .ext (.t 19) 1⟩,⟨some 11, none, .mov (.t 23)⟩,⟨some 12, none, .mov (.t 24)⟩])
 (.seq (.region [⟨some 25, none, .mov (.t 10)⟩,⟨some 26, none, .bin .eql (.t 25) (.c (.int .i64 0))⟩,⟨some 27, none, .mov (.t 26)⟩,⟨some 28, some (27, true), .mov (.t 12)⟩,⟨some 29, some (27, true), .bin .eql (.t 28) (.c (.int .i64 0))⟩,⟨some 30, none, .pick (.t 27) (.t 29) (.c (.bool false))⟩,⟨some 31, none, .mov (.t 30)⟩,⟨some 32, some (31, true), .mov (.t 9)⟩,⟨some 33, some (31, true), .mov (.t 2)⟩,⟨some 34, some (31, true), .call 20 [(.t 32), (.t 33)]⟩,⟨some 35, none, .pick (.t 31) (.t 34) (.c (.bool false))⟩,⟨some 36, none, .mov (.t 35)⟩,⟨some 37, some (36, true), .mov (.t 11)⟩,⟨some 38, some (36, true), .mov (.t 3)⟩,⟨some 39, some (36, true), .bin .eql (.t 37) (.t 38)⟩,⟨some 40, none, .pick (.t 36) (.t 39) (.c (.bool false))⟩,⟨some 8, none, .mov (.t 40)⟩])
 (.ret))))
def r34 : List Res := [.t 8]
def a34 : AFn := ⟨4, c34, r34, .v⟩

/-- bijou/bijoulaw05.Example -/
def c35 : ACode := .seq (.region [⟨some 0, none, .new (.agg [(.int .i64 0), (.sl [] .tight), (.int .i64 0), (.sl [] .tight), (.sl [] .tight)]) 5⟩])
 (.seq (.region [⟨some 1, none, .lit false 3 1 [(.c (.int .i64 100)), (.c (.int .i64 50))]⟩,⟨some 2, none, .lit false 3 1 [(.c (.int .i64 80)), (.c (.int .i64 120))]⟩,⟨some 3, none, .build [(.int .i64 0), (.sl [] .tight)] [(0, 1, (.c (.int .i64 10))), (1, 1, (.t 2))]⟩,⟨some 4, none, .lit false 3 1 [(.c (.int .i64 40)), (.c (.int .i64 90))]⟩,⟨some 5, none, .build [(.int .i64 0), (.sl [] .tight)] [(0, 1, (.c (.int .i64 8))), (1, 1, (.t 4))]⟩,⟨some 6, none, .lit false 55 2 [(.t 3), (.t 5)]⟩,⟨some 7, none, .build [(.int .i64 0), (.int .i64 0), (.int .i64 0), (.int .i64 0), (.int .i64 0), (.int .i64 0), (.int .i64 0), (.int .i64 0)] [(0, 1, (.c (.int .i64 1))), (1, 1, (.c (.int .i64 1))), (5, 1, (.c (.int .i64 1))), (7, 1, (.c (.int .i64 2)))]⟩,⟨some 8, none, .build [(.int .i64 0), (.int .i64 0), (.int .i64 0), (.int .i64 0), (.int .i64 0), (.int .i64 0), (.int .i64 0), (.int .i64 0)] [(0, 1, (.c (.int .i64 3))), (5, 1, (.c (.int .i64 1))), (6, 1, (.c (.int .i64 100)))]⟩,⟨some 9, none, .lit false 47 8 [(.t 7), (.t 8)]⟩,⟨some 10, none, .build [(.int .i64 0), (.sl [] .tight), (.int .i64 0), (.sl [] .tight), (.sl [] .tight)] [(0, 1, (.c (.int .i64 1))), (1, 1, (.t 1)), (2, 1, (.c (.int .i64 2))), (3, 1, (.t 6)), (4, 1, (.t 9))]⟩,⟨none, none, .store (.t 0) (.t 10) 5⟩])
 (.ret))
def r35 : List Res := [.cell 0 (some 5)]
def a35 : AFn := ⟨0, c35, r35, .v⟩

/-- bijou/week.validWeek -/
def c36 : ACode := .seq (.region [⟨some 1, none, .box (.t 0) 5⟩,⟨some 2, none, .mov (.c (.bool false))⟩])
 (.seq (.region [⟨some 3, none, .new .nilf 1⟩,⟨none, none, .store (.t 3) (.c (.fn 62 [] [])) 1⟩])
 (.seq (.region [⟨some 5, none, .clo 63 [] [(.t 1), (.t 3)]⟩,⟨some 4, none, .mov (.t 5)⟩])
 (.seq (.region [⟨some 6, none, .load (.t 1) (some 5)⟩,⟨some 7, none, .call 65 [(.t 6)]⟩,⟨some 8, none, .mov (.t 7)⟩,⟨some 9, some (8, true), .addr (.t 1) 3⟩,⟨some 10, some (8, true), .load (.t 9) none⟩,⟨some 11, some (8, true), .len (.t 10)⟩,⟨some 12, some (8, true), .bin .leq (.t 11) (.c (.int .i64 4))⟩,⟨some 13, none, .pick (.t 8) (.t 12) (.c (.bool false))⟩,⟨some 14, none, .mov (.t 13)⟩,⟨some 15, some (14, true), .addr (.t 1) 3⟩,⟨some 16, some (14, true), .load (.t 15) none⟩,⟨some 17, some (14, true), .mov (.t 4)⟩,⟨some 18, some (14, true), .call 66 [(.t 16), (.t 17)]⟩,⟨some 19, none, .pick (.t 14) (.t 18) (.c (.bool false))⟩,⟨some 20, none, .mov (.t 19)⟩,⟨some 21, some (20, true), .addr (.t 1) 4⟩,⟨some 22, some (20, true), .load (.t 21) none⟩,⟨some 23, some (20, true), .len (.t 22)⟩,⟨some 24, some (20, true), .bin .leq (.t 23) (.c (.int .i64 8))⟩,⟨some 25, none, .pick (.t 20) (.t 24) (.c (.bool false))⟩,⟨some 2, none, .mov (.t 25)⟩])
 (.ret))))
def r36 : List Res := [.t 2]
def a36 : AFn := ⟨1, c36, r36, .v⟩

/-- bijou/week.validDeals -/
def c37 : ACode := .seq (.region [⟨some 1, none, .box (.t 0) 5⟩,⟨some 2, none, .mov (.c (.bool false))⟩])
 (.seq (.region [⟨some 3, none, .addr (.t 1) 4⟩,⟨some 4, none, .load (.t 3) none⟩,⟨some 5, none, .clo 68 [] [(.t 1)]⟩,⟨some 6, none, .call 67 [(.t 4), (.t 5)]⟩,⟨some 2, none, .mov (.t 6)⟩])
 (.ret))
def r37 : List Res := [.t 2]
def a37 : AFn := ⟨1, c37, r37, .v⟩

/-- bijou/bijouref05.within -/
def c38 : ACode := .seq (.region [⟨some 6, none, .mov (.c (.bool false))⟩])
 (.seq (.region [⟨some 7, none, .mov (.t 0)⟩,⟨some 8, none, .mov (.t 1)⟩,⟨some 9, none, .bin .geq (.t 7) (.t 8)⟩,⟨some 10, none, .mov (.t 9)⟩,⟨some 11, some (10, true), .mov (.t 0)⟩,⟨some 12, some (10, true), .mov (.t 2)⟩,⟨some 13, some (10, true), .bin .leq (.t 11) (.t 12)⟩,⟨some 14, none, .pick (.t 10) (.t 13) (.c (.bool false))⟩,⟨some 6, none, .mov (.t 14)⟩])
 (.ret))
def r38 : List Res := [.t 6]
def a38 : AFn := ⟨3, c38, r38, .v⟩

/-- bijou/bijouref05.Slots -/
def c39 : ACode := .seq (.region [⟨some 1, none, .box (.t 0) 5⟩,⟨some 2, none, .mov (.c (.int .i64 0))⟩])
 (.seq (.region [⟨some 3, none, .addr (.t 1) 0⟩,⟨some 4, none, .load (.t 3) none⟩,⟨some 5, none, .addr (.t 1) 1⟩,⟨some 6, none, .load (.t 5) none⟩,⟨some 7, none, .len (.t 6)⟩,⟨some 8, none, .bin .mul (.t 4) (.t 7)⟩,⟨some 9, none, .addr (.t 1) 2⟩,⟨some 10, none, .load (.t 9) none⟩,⟨some 11, none, .bin .mul (.t 8) (.t 10)⟩,⟨some 2, none, .mov (.t 11)⟩])
 (.ret))
def r39 : List Res := [.t 2]
def a39 : AFn := ⟨1, c39, r39, .v⟩

/-- bijou/bijouref05.isMovie -/
def c40 : ACode := .seq (.region [⟨some 3, none, .box (.t 1) 2⟩,⟨some 4, none, .mov (.c (.bool false))⟩])
 (.seq (.seq (.region [⟨some 6, none, .addr (.t 3) 0⟩,⟨some 7, none, .load (.t 6) none⟩,⟨some 8, none, .call 38 [(.t 7), (.c (.int .i64 0)), (.c (.int .i64 100))]⟩,⟨some 9, none, .not (.t 8)⟩,⟨some 10, none, .mov (.t 9)⟩,⟨some 11, some (10, false), .addr (.t 3) 1⟩,⟨some 12, some (10, false), .load (.t 11) none⟩,⟨some 13, some (10, false), .len (.t 12)⟩,⟨some 14, some (10, false), .mov (.t 0)⟩,⟨some 15, some (10, false), .bin .neq (.t 13) (.t 14)⟩,⟨some 16, none, .pick (.t 10) (.c (.bool true)) (.t 15)⟩])
 (.cond (.t 16) (.seq (.region [⟨some 4, none, .mov (.c (.bool false))⟩])
 (.ret))
 (.skip)))
 (.seq (.seq (.region [⟨some 5, none, .mov (.c (.int .i64 0))⟩])
 (.block 0 (.loop (.seq (.seq (.region [⟨some 17, none, .mov (.t 5)⟩,⟨some 18, none, .mov (.t 0)⟩,⟨some 19, none, .bin .lss (.t 17) (.t 18)⟩])
 (.cond (.t 19) (.skip)
 (.exit 0)))
 (.seq (.block 1 (.seq (.region [⟨some 22, none, .addr (.t 3) 1⟩,⟨some 23, none, .load (.t 22) none⟩,⟨some 24, none, .mov (.t 5)⟩,⟨some 25, none, .idx (.t 23) (.t 24) 1⟩,⟨some 26, none, .load (.t 25) none⟩,⟨some 27, none, .call 38 [(.t 26), (.c (.int .i64 0)), (.c (.int .i64 999))]⟩,⟨some 28, none, .not (.t 27)⟩])
 (.cond (.t 28) (.seq (.region [⟨some 4, none, .mov (.c (.bool false))⟩])
 (.ret))
 (.skip))))
 (.region [⟨some 20, none, .mov (.t 5)⟩,⟨some 21, none, .bin .add (.t 20) (.c (.int .i64 1))⟩,⟨some 5, none, .mov (.t 21)⟩]))))))
 (.seq (.region [⟨some 4, none, .mov (.c (.bool true))⟩])
 (.ret))))
def r40 : List Res := [.t 4]
def a40 : AFn := ⟨2, c40, r40, .v⟩

/-- bijou/bijouref05.isDeal -/
def c41 : ACode := .seq (.region [⟨some 2, none, .box (.t 0) 5⟩,⟨some 3, none, .box (.t 1) 8⟩,⟨some 4, none, .mov (.c (.bool false))⟩])
 (.seq (.seq (.region [⟨some 5, none, .addr (.t 3) 0⟩,⟨some 6, none, .load (.t 5) none⟩,⟨some 7, none, .call 38 [(.t 6), (.c (.int .i64 1)), (.c (.int .i64 5))]⟩,⟨some 8, none, .not (.t 7)⟩,⟨some 9, none, .mov (.t 8)⟩,⟨some 10, some (9, false), .addr (.t 3) 1⟩,⟨some 11, some (9, false), .load (.t 10) none⟩,⟨some 12, some (9, false), .addr (.t 2) 3⟩,⟨some 13, some (9, false), .load (.t 12) none⟩,⟨some 14, some (9, false), .len (.t 13)⟩,⟨some 15, some (9, false), .bin .sub (.t 14) (.c (.int .i64 1))⟩,⟨some 16, some (9, false), .call 38 [(.t 11), (.c (.int .i64 0)), (.t 15)]⟩,⟨some 17, some (9, false), .not (.t 16)⟩,⟨some 18, none, .pick (.t 9) (.c (.bool true)) (.t 17)⟩,⟨some 19, none, .mov (.t 18)⟩,⟨some 20, some (19, false), .addr (.t 3) 7⟩,⟨some 21, some (19, false), .load (.t 20) none⟩,⟨some 22, some (19, false), .call 38 [(.t 21), (.c (.int .i64 0)), (.c (.int .i64 8))]⟩,⟨some 23, some (19, false), .not (.t 22)⟩,⟨some 24, none, .pick (.t 19) (.c (.bool true)) (.t 23)⟩,⟨some 25, none, .mov (.t 24)⟩,⟨some 26, some (25, false), .addr (.t 3) 7⟩,⟨some 27, some (25, false), .load (.t 26) none⟩,⟨some 28, some (25, false), .bin .neq (.t 27) (.c (.int .i64 0))⟩,⟨some 29, some (25, false), .mov (.t 28)⟩,⟨some 30, some (29, true), .addr (.t 3) 0⟩,⟨some 31, some (29, true), .load (.t 30) none⟩,⟨some 32, some (29, true), .bin .neq (.t 31) (.c (.int .i64 1))⟩,⟨some 33, some (25, false), .pick (.t 29) (.t 32) (.c (.bool false))⟩,⟨some 34, some (25, false), .mov (.t 33)⟩,⟨some 35, some (34, true), .addr (.t 3) 0⟩,⟨some 36, some (34, true), .load (.t 35) none⟩,⟨some 37, some (34, true), .bin .neq (.t 36) (.c (.int .i64 2))⟩,⟨some 38, some (25, false), .pick (.t 34) (.t 37) (.c (.bool false))⟩,⟨some 39, none, .pick (.t 25) (.c (.bool true)) (.t 38)⟩])
 (.cond (.t 39) (.seq (.region [⟨some 4, none, .mov (.c (.bool false))⟩])
 (.ret))
 (.skip)))
 (.seq (.region [⟨some 40, none, .addr (.t 3) 2⟩,⟨some 41, none, .load (.t 40) none⟩,⟨some 42, none, .addr (.t 3) 3⟩,⟨some 43, none, .load (.t 42) none⟩,⟨some 44, none, .call 38 [(.t 41), (.c (.int .i64 0)), (.t 43)]⟩,⟨some 45, none, .mov (.t 44)⟩,⟨some 46, some (45, true), .addr (.t 3) 3⟩,⟨some 47, some (45, true), .load (.t 46) none⟩,⟨some 48, some (45, true), .addr (.t 2) 0⟩,⟨some 49, some (45, true), .load (.t 48) none⟩,⟨some 50, some (45, true), .bin .lss (.t 47) (.t 49)⟩,⟨some 51, none, .pick (.t 45) (.t 50) (.c (.bool false))⟩,⟨some 52, none, .mov (.t 51)⟩,⟨some 53, some (52, true), .addr (.t 3) 4⟩,⟨some 54, some (52, true), .load (.t 53) none⟩,⟨some 55, some (52, true), .addr (.t 3) 5⟩,⟨some 56, some (52, true), .load (.t 55) none⟩,⟨some 57, some (52, true), .call 38 [(.t 54), (.c (.int .i64 0)), (.t 56)]⟩,⟨some 58, none, .pick (.t 52) (.t 57) (.c (.bool false))⟩,⟨some 59, none, .mov (.t 58)⟩,⟨some 60, some (59, true), .addr (.t 3) 5⟩,⟨some 61, some (59, true), .load (.t 60) none⟩,⟨some 62, some (59, true), .addr (.t 2) 2⟩,⟨some 63, some (59, true), .load (.t 62) none⟩,⟨some 64, some (59, true), .bin .lss (.t 61) (.t 63)⟩,⟨some 65, none, .pick (.t 59) (.t 64) (.c (.bool false))⟩,⟨some 66, none, .mov (.t 65)⟩,⟨some 67, some (66, true), .addr (.t 3) 6⟩,⟨some 68, some (66, true), .load (.t 67) none⟩,⟨some 69, some (66, true), .call 38 [(.t 68), (.c (.int .i64 0)), (.c (.int .i64 500))]⟩,⟨some 70, none, .pick (.t 66) (.t 69) (.c (.bool false))⟩,⟨some 4, none, .mov (.t 70)⟩])
 (.ret)))
def r41 : List Res := [.t 4]
def a41 : AFn := ⟨2, c41, r41, .v⟩

/-- bijou/week.checkProgram -/
def c42 : ACode := .seq (.region [⟨some 2, none, .box (.t 0) 5⟩,⟨some 4, none, .mov (.c (.int .i64 0))⟩])
 (.seq (.seq (.region [⟨some 7, none, .load (.t 2) (some 5)⟩,⟨some 8, none, .call 14 [(.t 7)]⟩,⟨some 5, none, .mov (.t 8)⟩])
 (.seq (.region [⟨some 9, none, .mov (.t 5)⟩,⟨some 10, none, .bin .neq (.t 9) (.c (.int .i64 0))⟩])
 (.cond (.t 10) (.seq (.region [⟨some 11, none, .mov (.t 5)⟩,⟨some 4, none, .mov (.t 11)⟩])
 (.ret))
 (.skip))))
 (.seq (.region [⟨some 12, none, .clo 70 [] [(.t 2)]⟩,⟨some 6, none, .mov (.t 12)⟩])
 (.seq (.seq (.region [⟨some 13, none, .mov (.t 1)⟩,⟨some 14, none, .len (.t 13)⟩,⟨some 15, none, .load (.t 2) (some 5)⟩,⟨some 16, none, .call 61 [(.t 15)]⟩,⟨some 17, none, .bin .neq (.t 14) (.t 16)⟩,⟨some 18, none, .mov (.t 17)⟩,⟨some 19, some (18, false), .mov (.t 1)⟩,⟨some 20, some (18, false), .mov (.t 6)⟩,⟨some 21, some (18, false), .call 64 [(.t 19), (.t 20)]⟩,⟨some 22, some (18, false), .not (.t 21)⟩,⟨some 23, none, .pick (.t 18) (.c (.bool true)) (.t 22)⟩])
 (.cond (.t 23) (.seq (.region [⟨some 4, none, .mov (.c (.int .i64 52))⟩])
 (.ret))
 (.skip)))
 (.seq (.region [⟨some 4, none, .mov (.c (.int .i64 0))⟩])
 (.ret)))))
def r42 : List Res := [.t 4]
def a42 : AFn := ⟨2, c42, r42, .v⟩

/-- bijou/week.keeps -/
def c43 : ACode := .seq (.region [⟨some 3, none, .box (.t 0) 5⟩,⟨some 4, none, .box (.t 1) 8⟩,⟨some 6, none, .mov (.c (.bool false))⟩])
 (.seq (.region [⟨some 7, none, .new (.int .i64 0) 1⟩,⟨some 8, none, .new (.int .i64 0) 1⟩,⟨some 9, none, .new (.int .i64 0) 1⟩,⟨none, none, .store (.t 7) (.c (.int .i64 0)) 1⟩,⟨none, none, .store (.t 8) (.c (.int .i64 8)) 1⟩,⟨none, none, .store (.t 9) (.c (.int .i64 0)) 1⟩])
 (.seq (.seq (.region [⟨some 11, none, .load (.t 3) (some 5)⟩,⟨some 12, none, .load (.t 4) (some 8)⟩,⟨some 13, none, .mov (.t 2)⟩,⟨some 14, none, .call 71 [(.t 11), (.t 12), (.t 13)]⟩])
 (.block 0 (.range (.t 14) [15] (.region [⟨some 10, none, .mov (.t 15)⟩])
 (.block 1 (.regionD [⟨some 16, none, .load (.t 7) none⟩,⟨some 17, none, .mov (.t 10)⟩,⟨some 18, none, .bin .add (.t 16) (.t 17)⟩,⟨some 19, none, .load (.t 8) none⟩,⟨some 20, none, .mov (.t 10)⟩,⟨some 21, none, .mnx false (.t 19) (.t 20)⟩,⟨some 22, none, .load (.t 9) none⟩,⟨some 23, none, .mov (.t 10)⟩,⟨some 24, none, .mnx true (.t 22) (.t 23)⟩,⟨none, none, .store (.t 7) (.t 18) 1⟩,⟨none, none, .store (.t 8) (.t 21) 1⟩,⟨none, none, .store (.t 9) (.t 24) 1⟩] [(8, 7), (9, 7), (9, 8)])))))
 (.seq (.seq (.region [⟨some 25, none, .addr (.t 4) 0⟩,⟨some 26, none, .load (.t 25) none⟩])
 (.block 2 (.seq (.region [⟨some 28, none, .bin .eql (.t 26) (.c (.int .i64 1))⟩,⟨some 27, none, .mov (.t 28)⟩])
 (.cond (.t 27) (.seq (.region [⟨some 29, none, .load (.t 7) none⟩,⟨some 30, none, .addr (.t 4) 7⟩,⟨some 31, none, .load (.t 30) none⟩,⟨some 32, none, .bin .geq (.t 29) (.t 31)⟩,⟨some 6, none, .mov (.t 32)⟩])
 (.ret))
 (.seq (.region [⟨some 34, none, .bin .eql (.t 26) (.c (.int .i64 2))⟩,⟨some 33, none, .mov (.t 34)⟩])
 (.cond (.t 33) (.seq (.region [⟨some 35, none, .load (.t 7) none⟩,⟨some 36, none, .addr (.t 4) 7⟩,⟨some 37, none, .load (.t 36) none⟩,⟨some 38, none, .bin .leq (.t 35) (.t 37)⟩,⟨some 6, none, .mov (.t 38)⟩])
 (.ret))
 (.seq (.region [⟨some 40, none, .bin .eql (.t 26) (.c (.int .i64 4))⟩,⟨some 39, none, .mov (.t 40)⟩])
 (.cond (.t 39) (.seq (.region [⟨some 41, none, .load (.t 9) none⟩,⟨some 42, none, .bin .leq (.t 41) (.c (.int .i64 1))⟩,⟨some 6, none, .mov (.t 42)⟩])
 (.ret))
 (.seq (.region [⟨some 44, none, .bin .eql (.t 26) (.c (.int .i64 5))⟩,⟨some 43, none, .mov (.t 44)⟩])
 (.cond (.t 43) (.seq (.region [⟨some 45, none, .load (.t 8) none⟩,⟨some 46, none, .bin .geq (.t 45) (.c (.int .i64 1))⟩,⟨some 6, none, .mov (.t 46)⟩])
 (.ret))
 (.skip)))))))))))
 (.seq (.region [⟨some 47, none, .load (.t 3) (some 5)⟩,⟨some 48, none, .load (.t 4) (some 8)⟩,⟨some 49, none, .mov (.t 2)⟩,⟨some 50, none, .call 72 [(.t 47), (.t 48), (.t 49)]⟩,⟨some 6, none, .mov (.t 50)⟩])
 (.ret)))))
def r43 : List Res := [.t 6]
def a43 : AFn := ⟨3, c43, r43, .v⟩

/-- bijou/week.slotsOf -/
def c44 : ACode := .seq (.region [⟨some 4, none, .mov (.c (.int .u64 0))⟩])
 (.seq (.region [⟨some 5, none, .mov (.c (.int .u64 0))⟩])
 (.seq (.seq (.region [⟨some 8, none, .mov (.t 0)⟩,⟨some 9, none, .len (.t 8)⟩,⟨some 10, none, .mov (.c (.int .i64 0))⟩])
 (.block 0 (.loop (.seq (.region [⟨some 11, none, .bin .lss (.t 10) (.t 9)⟩])
 (.seq (.cond (.t 11) (.skip)
 (.exit 0))
 (.seq (.block 1 (.seq (.region [⟨some 12, none, .mov (.t 10)⟩,⟨some 13, none, .idx (.t 8) (.t 10) 1⟩,⟨some 14, none, .load (.t 13) none⟩,⟨some 6, none, .mov (.t 12)⟩,⟨some 7, none, .mov (.t 14)⟩])
 (.seq (.region [⟨some 15, none, .mov (.t 7)⟩,⟨some 16, none, .mov (.t 1)⟩,⟨some 17, none, .bin .eql (.t 15) (.t 16)⟩])
 (.cond (.t 17) (.region [⟨some 18, none, .mov (.t 5)⟩,⟨some 19, none, .mov (.t 6)⟩,⟨some 20, none, .call 73 [(.t 18), (.t 19)]⟩,⟨some 5, none, .mov (.t 20)⟩])
 (.skip)))))
 (.region [⟨some 21, none, .bin .add (.t 10) (.c (.int .i64 1))⟩,⟨some 10, none, .mov (.t 21)⟩])))))))
 (.seq (.region [⟨some 22, none, .mov (.t 5)⟩,⟨some 4, none, .mov (.t 22)⟩])
 (.ret))))
def r44 : List Res := [.t 4]
def a44 : AFn := ⟨2, c44, r44, .v⟩

/-- bijou/bijouref05.check -/
def c45 : ACode := .seq (.region [⟨some 2, none, .box (.t 0) 5⟩,⟨some 4, none, .mov (.c (.int .i64 0))⟩])
 (.seq (.seq (.region [⟨some 6, none, .load (.t 2) (some 5)⟩,⟨some 7, none, .call 15 [(.t 6)]⟩,⟨some 5, none, .mov (.t 7)⟩])
 (.seq (.region [⟨some 8, none, .mov (.t 5)⟩,⟨some 9, none, .bin .neq (.t 8) (.c (.int .i64 0))⟩])
 (.cond (.t 9) (.seq (.region [⟨some 10, none, .mov (.t 5)⟩,⟨some 4, none, .mov (.t 10)⟩])
 (.ret))
 (.skip))))
 (.seq (.seq (.region [⟨some 11, none, .load (.t 2) (some 5)⟩,⟨some 12, none, .mov (.t 1)⟩,⟨some 13, none, .call 29 [(.t 11), (.t 12)]⟩,⟨some 14, none, .not (.t 13)⟩])
 (.cond (.t 14) (.seq (.region [⟨some 4, none, .mov (.c (.int .i64 52))⟩])
 (.ret))
 (.skip)))
 (.seq (.region [⟨some 4, none, .mov (.c (.int .i64 0))⟩])
 (.ret))))
def r45 : List Res := [.t 4]
def a45 : AFn := ⟨2, c45, r45, .v⟩

/-- bijou/bijouref05.broken -/
def c46 : ACode := .seq (.region [⟨some 2, none, .box (.t 0) 5⟩,⟨some 4, none, .mov (.c (.sl [] .tight))⟩])
 (.seq (.region [⟨some 5, none, .mov (.c (.sl [] .tight))⟩])
 (.seq (.seq (.region [⟨some 6, none, .mov (.c (.int .i64 0))⟩])
 (.block 0 (.loop (.seq (.seq (.region [⟨some 7, none, .mov (.t 6)⟩,⟨some 8, none, .addr (.t 2) 4⟩,⟨some 9, none, .load (.t 8) none⟩,⟨some 10, none, .len (.t 9)⟩,⟨some 11, none, .bin .lss (.t 7) (.t 10)⟩])
 (.cond (.t 11) (.skip)
 (.exit 0)))
 (.seq (.block 1 (.seq (.region [⟨some 14, none, .load (.t 2) (some 5)⟩,⟨some 15, none, .mov (.t 1)⟩,⟨some 16, none, .addr (.t 2) 4⟩,⟨some 17, none, .load (.t 16) none⟩,⟨some 18, none, .mov (.t 6)⟩,⟨some 19, none, .idx (.t 17) (.t 18) 8⟩,⟨some 20, none, .load (.t 19) (some 8)⟩,⟨some 21, none, .call 74 [(.t 14), (.t 15), (.t 20)]⟩,⟨some 22, none, .not (.t 21)⟩])
 (.cond (.t 22) (.region [⟨some 23, none, .mov (.t 5)⟩,⟨some 24, none, .mov (.t 6)⟩,⟨some 25, none, .lit false 3 1 [(.t 24)]⟩,⟨some 26, none, .app false (.t 23) (.t 25) 3 1 8⟩,⟨some 5, none, .mov (.t 26)⟩])
 (.skip))))
 (.region [⟨some 12, none, .mov (.t 6)⟩,⟨some 13, none, .bin .add (.t 12) (.c (.int .i64 1))⟩,⟨some 6, none, .mov (.t 13)⟩]))))))
 (.seq (.region [⟨some 27, none, .mov (.t 5)⟩,⟨some 4, none, .mov (.t 27)⟩])
 (.ret))))
def r46 : List Res := [.t 4]
def a46 : AFn := ⟨2, c46, r46, .v⟩

/-- bijou/week.takings -/
def c47 : ACode := .seq (.region [⟨some 3, none, .box (.t 0) 5⟩,⟨some 6, none, .mov (.c (.int .i64 0))⟩])
 (.seq (.region [⟨some 7, none, .mov (.c (.int .i64 0))⟩])
 (.seq (.seq (.region [⟨some 12, none, .mov (.t 2)⟩,⟨some 13, none, .call 75 [(.t 12)]⟩,⟨some 14, none, .len (.t 13)⟩,⟨some 15, none, .mov (.c (.int .i64 0))⟩])
 (.block 0 (.loop (.seq (.region [⟨some 16, none, .bin .lss (.t 15) (.t 14)⟩])
 (.seq (.cond (.t 16) (.skip)
 (.exit 0))
 (.seq (.block 1 (.seq (.region [⟨some 17, none, .idx (.t 13) (.t 15) 1⟩,⟨some 18, none, .load (.t 17) none⟩,⟨some 9, none, .mov (.t 18)⟩])
 (.seq (.region [⟨some 19, none, .mov (.t 9)⟩,⟨some 20, none, .addr (.t 3) 2⟩,⟨some 21, none, .load (.t 20) none⟩,⟨some 22, none, .bin .rem (.t 19) (.t 21)⟩,⟨some 23, none, .mov (.t 9)⟩,⟨some 24, none, .addr (.t 3) 2⟩,⟨some 25, none, .load (.t 24) none⟩,⟨some 26, none, .bin .quo (.t 23) (.t 25)⟩,⟨some 27, none, .addr (.t 3) 1⟩,⟨some 28, none, .load (.t 27) none⟩,⟨some 29, none, .len (.t 28)⟩,⟨some 30, none, .bin .rem (.t 26) (.t 29)⟩,⟨some 10, none, .mov (.t 22)⟩,⟨some 11, none, .mov (.t 30)⟩])
 (.region [⟨some 31, none, .mov (.t 7)⟩,⟨some 32, none, .addr (.t 3) 3⟩,⟨some 33, none, .load (.t 32) none⟩,⟨some 34, none, .mov (.t 1)⟩,⟨some 35, none, .idx (.t 33) (.t 34) 2⟩,⟨some 36, none, .addr (.t 35) 1⟩,⟨some 37, none, .load (.t 36) none⟩,⟨some 38, none, .mov (.t 10)⟩,⟨some 39, none, .idx (.t 37) (.t 38) 1⟩,⟨some 40, none, .load (.t 39) none⟩,⟨some 41, none, .addr (.t 3) 1⟩,⟨some 42, none, .load (.t 41) none⟩,⟨some 43, none, .mov (.t 11)⟩,⟨some 44, none, .idx (.t 42) (.t 43) 1⟩,⟨some 45, none, .load (.t 44) none⟩,⟨some 46, none, .mnx false (.t 40) (.t 45)⟩,⟨some 47, none, .bin .add (.t 31) (.t 46)⟩,⟨some 7, none, .mov (.t 47)⟩]))))
 (.region [⟨some 48, none, .bin .add (.t 15) (.c (.int .i64 1))⟩,⟨some 15, none, .mov (.t 48)⟩])))))))
 (.seq (.region [⟨some 49, none, .mov (.t 7)⟩,⟨some 50, none, .addr (.t 3) 3⟩,⟨some 51, none, .load (.t 50) none⟩,⟨some 52, none, .mov (.t 1)⟩,⟨some 53, none, .idx (.t 51) (.t 52) 2⟩,⟨some 54, none, .addr (.t 53) 0⟩,⟨some 55, none, .load (.t 54) none⟩,⟨some 56, none, .bin .mul (.t 49) (.t 55)⟩,⟨some 6, none, .mov (.t 56)⟩])
 (.ret))))
def r47 : List Res := [.t 6]
def a47 : AFn := ⟨3, c47, r47, .v⟩

/-- bijou/bijouref05.takings -/
def c48 : ACode := .seq (.region [⟨some 2, none, .box (.t 0) 5⟩,⟨some 4, none, .mov (.c (.int .i64 0))⟩])
 (.seq (.region [⟨some 5, none, .mov (.c (.int .i64 0))⟩])
 (.seq (.seq (.region [⟨some 6, none, .mov (.c (.int .i64 0))⟩])
 (.block 0 (.loop (.seq (.seq (.region [⟨some 10, none, .mov (.t 6)⟩,⟨some 11, none, .addr (.t 2) 0⟩,⟨some 12, none, .load (.t 11) none⟩,⟨some 13, none, .bin .lss (.t 10) (.t 12)⟩])
 (.cond (.t 13) (.skip)
 (.exit 0)))
 (.seq (.block 1 (.seq (.region [⟨some 7, none, .mov (.c (.int .i64 0))⟩])
 (.block 2 (.loop (.seq (.seq (.region [⟨some 16, none, .mov (.t 7)⟩,⟨some 17, none, .addr (.t 2) 1⟩,⟨some 18, none, .load (.t 17) none⟩,⟨some 19, none, .len (.t 18)⟩,⟨some 20, none, .bin .lss (.t 16) (.t 19)⟩])
 (.cond (.t 20) (.skip)
 (.exit 2)))
 (.seq (.block 3 (.seq (.region [⟨some 8, none, .mov (.c (.int .i64 0))⟩])
 (.block 4 (.loop (.seq (.seq (.region [⟨some 23, none, .mov (.t 8)⟩,⟨some 24, none, .addr (.t 2) 2⟩,⟨some 25, none, .load (.t 24) none⟩,⟨some 26, none, .bin .lss (.t 23) (.t 25)⟩])
 (.cond (.t 26) (.skip)
 (.exit 4)))
 (.seq (.block 5 (.seq (.region [⟨some 29, none, .mov (.t 1)⟩,⟨some 30, none, .load (.t 2) (some 5)⟩,⟨some 31, none, .mov (.t 6)⟩,⟨some 32, none, .mov (.t 7)⟩,⟨some 33, none, .mov (.t 8)⟩,⟨some 34, none, .call 33 [(.t 30), (.t 31), (.t 32), (.t 33)]⟩,⟨some 35, none, .idx (.t 29) (.t 34) 1⟩,⟨some 36, none, .load (.t 35) none⟩,⟨some 9, none, .mov (.t 36)⟩])
 (.seq (.region [⟨some 37, none, .mov (.t 9)⟩,⟨some 38, none, .bin .neq (.t 37) (.c (.int .i64 (-1)))⟩])
 (.cond (.t 38) (.region [⟨some 39, none, .mov (.t 5)⟩,⟨some 40, none, .addr (.t 2) 3⟩,⟨some 41, none, .load (.t 40) none⟩,⟨some 42, none, .mov (.t 9)⟩,⟨some 43, none, .idx (.t 41) (.t 42) 2⟩,⟨some 44, none, .addr (.t 43) 0⟩,⟨some 45, none, .load (.t 44) none⟩,⟨some 46, none, .addr (.t 2) 3⟩,⟨some 47, none, .load (.t 46) none⟩,⟨some 48, none, .mov (.t 9)⟩,⟨some 49, none, .idx (.t 47) (.t 48) 2⟩,⟨some 50, none, .addr (.t 49) 1⟩,⟨some 51, none, .load (.t 50) none⟩,⟨some 52, none, .mov (.t 8)⟩,⟨some 53, none, .idx (.t 51) (.t 52) 1⟩,⟨some 54, none, .load (.t 53) none⟩,⟨some 55, none, .addr (.t 2) 1⟩,⟨some 56, none, .load (.t 55) none⟩,⟨some 57, none, .mov (.t 7)⟩,⟨some 58, none, .idx (.t 56) (.t 57) 1⟩,⟨some 59, none, .load (.t 58) none⟩,⟨some 60, none, .mnx false (.t 54) (.t 59)⟩,⟨some 61, none, .bin .mul (.t 45) (.t 60)⟩,⟨some 62, none, .bin .add (.t 39) (.t 61)⟩,⟨some 5, none, .mov (.t 62)⟩])
 (.skip)))))
 (.region [⟨some 27, none, .mov (.t 8)⟩,⟨some 28, none, .bin .add (.t 27) (.c (.int .i64 1))⟩,⟨some 8, none, .mov (.t 28)⟩])))))))
 (.region [⟨some 21, none, .mov (.t 7)⟩,⟨some 22, none, .bin .add (.t 21) (.c (.int .i64 1))⟩,⟨some 7, none, .mov (.t 22)⟩])))))))
 (.region [⟨some 14, none, .mov (.t 6)⟩,⟨some 15, none, .bin .add (.t 14) (.c (.int .i64 1))⟩,⟨some 6, none, .mov (.t 15)⟩]))))))
 (.seq (.region [⟨some 63, none, .mov (.t 5)⟩,⟨some 4, none, .mov (.t 63)⟩])
 (.ret))))
def r48 : List Res := [.t 4]
def a48 : AFn := ⟨2, c48, r48, .v⟩

/-- bijou/week.best -/
def c49 : ACode := .seq (.region [⟨some 1, none, .boxf (.t 0) 5⟩,⟨some 2, none, .new (.agg [(.int .i64 0), (.int .u64 0), (.int .u64 0), (.int .u64 0), (.int .u64 0), (.int .u64 0), (.int .u64 0)]) 7⟩,⟨some 3, none, .mov (.c (.int .i64 0))⟩])
 (.seq (.seq (.region [⟨some 7, none, .load (.t 1) (some 5)⟩,⟨some 8, none, .call 14 [(.t 7)]⟩,⟨some 4, none, .mov (.t 8)⟩])
 (.seq (.region [⟨some 9, none, .mov (.t 4)⟩,⟨some 10, none, .bin .neq (.t 9) (.c (.int .i64 0))⟩])
 (.cond (.t 10) (.seq (.region [⟨some 11, none, .build [(.int .i64 0), (.int .u64 0), (.int .u64 0), (.int .u64 0), (.int .u64 0), (.int .u64 0), (.int .u64 0)] []⟩,⟨some 12, none, .mov (.t 4)⟩,⟨none, none, .store (.t 2) (.t 11) 7⟩,⟨some 3, none, .mov (.t 12)⟩])
 (.ret))
 (.skip))))
 (.seq (.regionD [⟨some 14, none, .load (.t 1) (some 5)⟩,⟨some 16, none, .load (.t 1) (some 5)⟩,⟨none, none, .mov (.c .undef)⟩,⟨some 15, none, .call 51 [(.t 14)]⟩,⟨some 17, none, .call 53 [(.t 16)]⟩,⟨some 18, none, .mget .i (.agg [(.int .i64 0), (.int .u64 0), (.int .u64 0), (.int .u64 0), (.int .u64 0), (.int .u64 0), (.int .u64 0)]) true (.t 15) (.t 17)⟩,⟨some 13, none, .mov (.t 18)⟩,⟨some 19, none, .ext (.t 13) 0⟩,⟨some 20, none, .ext (.t 13) 1⟩,⟨some 5, none, .box (.t 19) 7⟩,⟨some 6, none, .mov (.t 20)⟩] [(1, 1)])
 (.seq (.seq (.region [⟨some 21, none, .mov (.t 6)⟩,⟨some 22, none, .not (.t 21)⟩])
 (.cond (.t 22) (.seq (.region [⟨some 23, none, .build [(.int .i64 0), (.int .u64 0), (.int .u64 0), (.int .u64 0), (.int .u64 0), (.int .u64 0), (.int .u64 0)] []⟩,⟨none, none, .store (.t 2) (.t 23) 7⟩,⟨some 3, none, .mov (.c (.int .i64 3))⟩])
 (.ret))
 (.skip)))
 (.seq (.region [⟨some 24, none, .load (.t 5) (some 7)⟩,⟨none, none, .store (.t 2) (.t 24) 7⟩,⟨some 3, none, .mov (.c (.int .i64 0))⟩])
 (.ret)))))
def r49 : List Res := [.cell 2 (some 7), .t 3]
def a49 : AFn := ⟨1, c49, r49, .v⟩

/-- bijou/bijouref05.most -/
def c50 : ACode := .seq (.region [⟨some 1, none, .box (.t 0) 5⟩,⟨some 2, none, .mov (.c (.int .i64 0))⟩])
 (.seq (.region [⟨some 3, none, .mov (.c (.int .i64 (-1)))⟩])
 (.seq (.region [⟨some 6, none, .load (.t 1) (some 5)⟩,⟨some 7, none, .call 76 [(.t 6), (.c (.sl [] .tight))]⟩,⟨some 4, none, .mov (.t 7)⟩])
 (.seq (.seq (.region [⟨some 5, none, .mov (.c (.int .i64 0))⟩])
 (.block 0 (.loop (.seq (.seq (.region [⟨some 8, none, .mov (.t 5)⟩,⟨some 9, none, .mov (.t 4)⟩,⟨some 10, none, .len (.t 9)⟩,⟨some 11, none, .bin .lss (.t 8) (.t 10)⟩])
 (.cond (.t 11) (.skip)
 (.exit 0)))
 (.seq (.block 1 (.seq (.region [⟨some 14, none, .load (.t 1) (some 5)⟩,⟨some 15, none, .mov (.t 4)⟩,⟨some 16, none, .mov (.t 5)⟩,⟨some 17, none, .idx (.t 15) (.t 16) 1⟩,⟨some 18, none, .load (.t 17) none⟩,⟨some 19, none, .call 46 [(.t 14), (.t 18)]⟩,⟨some 20, none, .len (.t 19)⟩,⟨some 21, none, .bin .eql (.t 20) (.c (.int .i64 0))⟩])
 (.cond (.t 21) (.region [⟨some 22, none, .mov (.t 3)⟩,⟨some 23, none, .load (.t 1) (some 5)⟩,⟨some 24, none, .mov (.t 4)⟩,⟨some 25, none, .mov (.t 5)⟩,⟨some 26, none, .idx (.t 24) (.t 25) 1⟩,⟨some 27, none, .load (.t 26) none⟩,⟨some 28, none, .call 48 [(.t 23), (.t 27)]⟩,⟨some 29, none, .mnx true (.t 22) (.t 28)⟩,⟨some 3, none, .mov (.t 29)⟩])
 (.skip))))
 (.region [⟨some 12, none, .mov (.t 5)⟩,⟨some 13, none, .bin .add (.t 12) (.c (.int .i64 1))⟩,⟨some 5, none, .mov (.t 13)⟩]))))))
 (.seq (.region [⟨some 30, none, .mov (.t 3)⟩,⟨some 2, none, .mov (.t 30)⟩])
 (.ret)))))
def r50 : List Res := [.t 2]
def a50 : AFn := ⟨1, c50, r50, .v⟩

/-- bijou/week.bestOfEach -/
def c51 : ACode := .seq (.region [⟨some 1, none, .box (.t 0) 5⟩,⟨some 2, none, .mov (.c .nilm)⟩])
 (.seq (.region [⟨some 7, none, .mkmap .i⟩,⟨some 3, none, .new .nilm 1⟩,⟨none, none, .store (.t 3) (.t 7) 1⟩])
 (.seq (.seq (.region [⟨some 8, none, .load (.t 1) (some 5)⟩,⟨some 9, none, .call 77 [(.t 8)]⟩])
 (.block 0 (.range (.t 9) [10] (.region [⟨some 4, none, .new (.agg [(.int .i64 0), (.int .u64 0), (.int .u64 0), (.int .u64 0), (.int .u64 0), (.int .u64 0), (.int .u64 0)]) 7⟩,⟨none, none, .store (.t 4) (.t 10) 7⟩])
 (.block 1 (.seq (.region [⟨some 12, none, .load (.t 3) none⟩,⟨some 13, none, .addr (.t 4) 0⟩,⟨some 14, none, .addr (.t 13) 1⟩,⟨some 15, none, .load (.t 14) none⟩,⟨some 16, none, .mget .i (.agg [(.int .i64 0), (.int .u64 0), (.int .u64 0), (.int .u64 0), (.int .u64 0), (.int .u64 0), (.int .u64 0)]) true (.t 12) (.t 15)⟩,⟨some 11, none, .mov (.t 16)⟩,⟨some 17, none, .ext (.t 11) 0⟩,⟨some 18, none, .ext (.t 11) 1⟩,⟨some 5, none, .new (.agg [(.int .i64 0), (.int .u64 0), (.int .u64 0), (.int .u64 0), (.int .u64 0), (.int .u64 0), (.int .u64 0)]) 7⟩,⟨none, none, .store (.t 5) (.t 17) 7⟩,⟨some 6, none, .mov (.t 18)⟩])
 (.seq (.region [⟨some 19, none, .mov (.t 6)⟩,⟨some 20, none, .not (.t 19)⟩,⟨some 21, none, .mov (.t 20)⟩,⟨some 22, some (21, false), .addr (.t 4) 0⟩,⟨some 23, some (21, false), .addr (.t 22) 0⟩,⟨some 24, some (21, false), .load (.t 23) none⟩,⟨some 25, some (21, false), .addr (.t 5) 0⟩,⟨some 26, some (21, false), .addr (.t 25) 0⟩,⟨some 27, some (21, false), .load (.t 26) none⟩,⟨some 28, some (21, false), .bin .gtr (.t 24) (.t 27)⟩,⟨some 29, none, .pick (.t 21) (.c (.bool true)) (.t 28)⟩])
 (.cond (.t 29) (.region [⟨some 30, none, .load (.t 3) none⟩,⟨some 31, none, .addr (.t 4) 0⟩,⟨some 32, none, .addr (.t 31) 1⟩,⟨some 33, none, .load (.t 32) none⟩,⟨some 34, none, .load (.t 4) (some 7)⟩,⟨none, none, .mput .i (.t 30) (.t 33) (.t 34)⟩])
 (.skip))))))))
 (.seq (.region [⟨some 35, none, .load (.t 3) none⟩,⟨some 2, none, .mov (.t 35)⟩])
 (.ret))))
def r51 : List Res := [.t 2]
def a51 : AFn := ⟨1, c51, r51, .r⟩

/-- (bijou/week.bests).clash -/
def c52 : ACode := .seq (.region [⟨some 2, none, .box (.t 0) 1⟩,⟨some 4, none, .new (.sl [] .tight) 1⟩,⟨some 5, none, .new (.bool false) 1⟩])
 (.seq (.seq (.region [⟨some 10, none, .mov (.t 1)⟩,⟨some 11, none, .call 78 [(.t 10)]⟩])
 (.block 0 (.range (.t 11) [12] (.region [⟨some 6, none, .mov (.t 12)⟩])
 (.block 1 (.seq (.seq (.region [⟨some 14, none, .load (.t 2) none⟩,⟨some 15, none, .mov (.t 6)⟩,⟨some 16, none, .call 58 [(.t 14), (.t 15)]⟩,⟨some 13, none, .mov (.t 16)⟩,⟨some 17, none, .ext (.t 13) 0⟩,⟨some 18, none, .ext (.t 13) 1⟩,⟨some 7, none, .mov (.t 17)⟩,⟨some 8, none, .mov (.t 18)⟩])
 (.seq (.region [⟨some 19, none, .mov (.t 8)⟩])
 (.cond (.t 19) (.exit 1)
 (.skip))))
 (.seq (.region [⟨some 20, none, .mov (.t 6)⟩,⟨some 21, none, .call 75 [(.t 20)]⟩,⟨some 9, none, .mov (.t 21)⟩])
 (.seq (.region [⟨some 22, none, .load (.t 5) none⟩,⟨some 23, none, .not (.t 22)⟩,⟨some 24, none, .mov (.t 23)⟩,⟨some 25, some (24, false), .mov (.t 9)⟩,⟨some 26, some (24, false), .load (.t 4) none⟩,⟨some 27, some (24, false), .call 79 [(.t 25), (.t 26)]⟩,⟨some 28, none, .pick (.t 24) (.c (.bool true)) (.t 27)⟩])
 (.cond (.t 28) (.region [⟨some 29, none, .mov (.t 9)⟩,⟨none, none, .store (.t 4) (.t 29) 1⟩,⟨none, none, .store (.t 5) (.c (.bool true)) 1⟩])
 (.skip)))))))))
 (.seq (.regionD [⟨some 30, none, .load (.t 4) none⟩,⟨some 31, none, .load (.t 5) none⟩,⟨none, none, .store (.t 4) (.t 30) 1⟩,⟨none, none, .store (.t 5) (.t 31) 1⟩] [(5, 4)])
 (.ret)))
def r52 : List Res := [.cell 4 none, .cell 5 none]
def a52 : AFn := ⟨2, c52, r52, .r⟩

/-- bijou/week.allDeals -/
def c53 : ACode := .seq (.region [⟨some 1, none, .box (.t 0) 5⟩,⟨some 2, none, .mov (.c (.int .u64 0))⟩])
 (.seq (.region [⟨some 3, none, .addr (.t 1) 4⟩,⟨some 4, none, .load (.t 3) none⟩,⟨some 5, none, .len (.t 4)⟩,⟨some 6, none, .call 80 [(.t 5)]⟩,⟨some 2, none, .mov (.t 6)⟩])
 (.ret))
def r53 : List Res := [.t 2]
def a53 : AFn := ⟨1, c53, r53, .v⟩

/-- bijou/bijouref05.kept -/
def c54 : ACode := .seq (.region [⟨some 1, none, .box (.t 0) 5⟩,⟨some 2, none, .mov (.c (.sl [] .tight))⟩])
 (.seq (.region [⟨some 3, none, .mov (.c (.sl [] .tight))⟩])
 (.seq (.region [⟨some 9, none, .load (.t 1) (some 5)⟩,⟨some 10, none, .call 76 [(.t 9), (.c (.sl [] .tight))]⟩,⟨some 4, none, .mov (.t 10)⟩])
 (.seq (.seq (.region [⟨some 5, none, .mov (.c (.int .i64 0))⟩])
 (.block 0 (.loop (.seq (.seq (.region [⟨some 11, none, .mov (.t 5)⟩,⟨some 12, none, .mov (.t 4)⟩,⟨some 13, none, .len (.t 12)⟩,⟨some 14, none, .bin .lss (.t 11) (.t 13)⟩])
 (.cond (.t 14) (.skip)
 (.exit 0)))
 (.seq (.block 1 (.seq (.region [⟨some 17, none, .addr (.t 1) 4⟩,⟨some 18, none, .load (.t 17) none⟩,⟨some 19, none, .len (.t 18)⟩,⟨some 20, none, .conv .u64 (.t 19)⟩,⟨some 21, none, .bin .shl (.c (.int .i64 1)) (.t 20)⟩,⟨some 22, none, .bin .sub (.t 21) (.c (.int .i64 1))⟩,⟨some 6, none, .mov (.t 22)⟩])
 (.seq (.region [⟨some 23, none, .load (.t 1) (some 5)⟩,⟨some 24, none, .mov (.t 4)⟩,⟨some 25, none, .mov (.t 5)⟩,⟨some 26, none, .idx (.t 24) (.t 25) 1⟩,⟨some 27, none, .load (.t 26) none⟩,⟨some 28, none, .call 46 [(.t 23), (.t 27)]⟩,⟨some 7, none, .mov (.t 28)⟩])
 (.seq (.seq (.region [⟨some 8, none, .mov (.c (.int .i64 0))⟩])
 (.block 2 (.loop (.seq (.seq (.region [⟨some 29, none, .mov (.t 8)⟩,⟨some 30, none, .mov (.t 7)⟩,⟨some 31, none, .len (.t 30)⟩,⟨some 32, none, .bin .lss (.t 29) (.t 31)⟩])
 (.cond (.t 32) (.skip)
 (.exit 2)))
 (.seq (.block 3 (.region [⟨some 35, none, .mov (.t 6)⟩,⟨some 36, none, .mov (.t 7)⟩,⟨some 37, none, .mov (.t 8)⟩,⟨some 38, none, .idx (.t 36) (.t 37) 1⟩,⟨some 39, none, .load (.t 38) none⟩,⟨some 40, none, .conv .u64 (.t 39)⟩,⟨some 41, none, .bin .shl (.c (.int .i64 1)) (.t 40)⟩,⟨some 42, none, .bin .andNot (.t 35) (.t 41)⟩,⟨some 6, none, .mov (.t 42)⟩]))
 (.region [⟨some 33, none, .mov (.t 8)⟩,⟨some 34, none, .bin .add (.t 33) (.c (.int .i64 1))⟩,⟨some 8, none, .mov (.t 34)⟩]))))))
 (.seq (.region [⟨some 43, none, .mov (.t 3)⟩,⟨some 44, none, .mov (.t 6)⟩,⟨some 45, none, .call 81 [(.t 43), (.t 44)]⟩,⟨some 46, none, .not (.t 45)⟩])
 (.cond (.t 46) (.region [⟨some 47, none, .mov (.t 3)⟩,⟨some 48, none, .mov (.t 6)⟩,⟨some 49, none, .lit false 3 1 [(.t 48)]⟩,⟨some 50, none, .app false (.t 47) (.t 49) 3 1 8⟩,⟨some 3, none, .mov (.t 50)⟩])
 (.skip)))))))
 (.region [⟨some 15, none, .mov (.t 5)⟩,⟨some 16, none, .bin .add (.t 15) (.c (.int .i64 1))⟩,⟨some 5, none, .mov (.t 16)⟩]))))))
 (.seq (.region [⟨some 51, none, .mov (.t 3)⟩,⟨some 2, none, .mov (.t 51)⟩])
 (.ret)))))
def r54 : List Res := [.t 2]
def a54 : AFn := ⟨1, c54, r54, .v⟩

/-- bijou/bijouref05.elements -/
def c55 : ACode := .seq (.region [⟨some 2, none, .mov (.c (.sl [] .tight))⟩])
 (.seq (.region [⟨some 3, none, .mov (.c (.sl [] .tight))⟩])
 (.seq (.seq (.region [⟨some 4, none, .mov (.c (.int .i64 0))⟩])
 (.block 0 (.loop (.seq (.seq (.region [⟨some 5, none, .mov (.t 4)⟩,⟨some 6, none, .bin .lss (.t 5) (.c (.int .i64 8))⟩])
 (.cond (.t 6) (.skip)
 (.exit 0)))
 (.seq (.block 1 (.seq (.region [⟨some 9, none, .mov (.t 0)⟩,⟨some 10, none, .mov (.t 4)⟩,⟨some 11, none, .conv .u64 (.t 10)⟩,⟨some 12, none, .bin .shr (.t 9) (.t 11)⟩,⟨some 13, none, .bin .and (.t 12) (.c (.int .i64 1))⟩,⟨some 14, none, .bin .eql (.t 13) (.c (.int .i64 1))⟩])
 (.cond (.t 14) (.region [⟨some 15, none, .mov (.t 3)⟩,⟨some 16, none, .mov (.t 4)⟩,⟨some 17, none, .lit false 3 1 [(.t 16)]⟩,⟨some 18, none, .app false (.t 15) (.t 17) 3 1 8⟩,⟨some 3, none, .mov (.t 18)⟩])
 (.skip))))
 (.region [⟨some 7, none, .mov (.t 4)⟩,⟨some 8, none, .bin .add (.t 7) (.c (.int .i64 1))⟩,⟨some 4, none, .mov (.t 8)⟩]))))))
 (.seq (.region [⟨some 19, none, .mov (.t 3)⟩,⟨some 2, none, .mov (.t 19)⟩])
 (.ret))))
def r55 : List Res := [.t 2]
def a55 : AFn := ⟨1, c55, r55, .v⟩

/-- bijou/bijouref05.before -/
def c56 : ACode := .seq (.region [⟨some 4, none, .mov (.c (.bool false))⟩])
 (.seq (.seq (.region [⟨some 5, none, .mov (.c (.int .i64 0))⟩])
 (.block 0 (.loop (.seq (.seq (.region [⟨some 6, none, .mov (.t 5)⟩,⟨some 7, none, .mov (.t 0)⟩,⟨some 8, none, .len (.t 7)⟩,⟨some 9, none, .bin .lss (.t 6) (.t 8)⟩,⟨some 10, none, .mov (.t 9)⟩,⟨some 11, some (10, true), .mov (.t 0)⟩,⟨some 12, some (10, true), .len (.t 11)⟩,⟨some 13, some (10, true), .mov (.t 1)⟩,⟨some 14, some (10, true), .len (.t 13)⟩,⟨some 15, some (10, true), .bin .eql (.t 12) (.t 14)⟩,⟨some 16, none, .pick (.t 10) (.t 15) (.c (.bool false))⟩])
 (.cond (.t 16) (.skip)
 (.exit 0)))
 (.seq (.block 1 (.seq (.region [⟨some 19, none, .mov (.t 0)⟩,⟨some 20, none, .mov (.t 5)⟩,⟨some 21, none, .idx (.t 19) (.t 20) 1⟩,⟨some 22, none, .load (.t 21) none⟩,⟨some 23, none, .mov (.t 1)⟩,⟨some 24, none, .mov (.t 5)⟩,⟨some 25, none, .idx (.t 23) (.t 24) 1⟩,⟨some 26, none, .load (.t 25) none⟩,⟨some 27, none, .bin .neq (.t 22) (.t 26)⟩])
 (.cond (.t 27) (.seq (.region [⟨some 28, none, .mov (.t 0)⟩,⟨some 29, none, .mov (.t 5)⟩,⟨some 30, none, .idx (.t 28) (.t 29) 1⟩,⟨some 31, none, .load (.t 30) none⟩,⟨some 32, none, .mov (.t 1)⟩,⟨some 33, none, .mov (.t 5)⟩,⟨some 34, none, .idx (.t 32) (.t 33) 1⟩,⟨some 35, none, .load (.t 34) none⟩,⟨some 36, none, .bin .lss (.t 31) (.t 35)⟩,⟨some 4, none, .mov (.t 36)⟩])
 (.ret))
 (.skip))))
 (.region [⟨some 17, none, .mov (.t 5)⟩,⟨some 18, none, .bin .add (.t 17) (.c (.int .i64 1))⟩,⟨some 5, none, .mov (.t 18)⟩]))))))
 (.seq (.region [⟨some 37, none, .mov (.t 0)⟩,⟨some 38, none, .len (.t 37)⟩,⟨some 39, none, .mov (.t 1)⟩,⟨some 40, none, .len (.t 39)⟩,⟨some 41, none, .bin .lss (.t 38) (.t 40)⟩,⟨some 4, none, .mov (.t 41)⟩])
 (.ret)))
def r56 : List Res := [.t 4]
def a56 : AFn := ⟨2, c56, r56, .v⟩

/-- bijou/week.isWithin -/
def c57 : ACode := .seq (.region [⟨some 6, none, .mov (.c (.bool false))⟩])
 (.seq (.region [⟨some 7, none, .mov (.t 1)⟩,⟨some 8, none, .mov (.t 0)⟩,⟨some 9, none, .bin .leq (.t 7) (.t 8)⟩,⟨some 10, none, .mov (.t 9)⟩,⟨some 11, some (10, true), .mov (.t 0)⟩,⟨some 12, some (10, true), .mov (.t 2)⟩,⟨some 13, some (10, true), .bin .leq (.t 11) (.t 12)⟩,⟨some 14, none, .pick (.t 10) (.t 13) (.c (.bool false))⟩,⟨some 6, none, .mov (.t 14)⟩])
 (.ret))
def r57 : List Res := [.t 6]
def a57 : AFn := ⟨3, c57, r57, .v⟩

/-- (bijou/week.bests).most -/
def c58 : ACode := .seq (.region [⟨some 4, none, .mov (.c (.int .i64 0))⟩,⟨some 5, none, .mov (.c (.bool false))⟩])
 (.seq (.region [⟨some 6, none, .mov (.c (.int .i64 0))⟩,⟨some 7, none, .mov (.c (.bool false))⟩])
 (.seq (.rngm (.t 10) 11 12 13 14 [⟨some 10, none, .mov (.t 0)⟩] [⟨some 15, none, .ext (.t 14) 0⟩, ⟨some 16, none, .ext (.t 14) 1⟩, ⟨some 9, none, .new (.agg [(.int .i64 0), (.int .u64 0), (.int .u64 0), (.int .u64 0), (.int .u64 0), (.int .u64 0), (.int .u64 0)]) 7⟩, ⟨some 8, none, .mov (.t 15)⟩, ⟨none, none, .store (.t 9) (.t 16) 7⟩] 0 1 (.seq (.region [⟨some 17, none, .mov (.t 8)⟩,⟨some 18, none, .mov (.t 1)⟩,⟨some 19, none, .call 82 [(.t 17), (.t 18)]⟩])
 (.cond (.t 19) (.region [⟨some 20, none, .mov (.t 6)⟩,⟨some 21, none, .addr (.t 9) 0⟩,⟨some 22, none, .addr (.t 21) 0⟩,⟨some 23, none, .load (.t 22) none⟩,⟨some 24, none, .mnx true (.t 20) (.t 23)⟩,⟨some 6, none, .mov (.t 24)⟩,⟨some 7, none, .mov (.c (.bool true))⟩])
 (.skip))) [8, 9, 15, 16, 17, 18, 19, 20, 21, 22, 23, 24])
 (.seq (.region [⟨some 25, none, .mov (.t 6)⟩,⟨some 26, none, .mov (.t 7)⟩,⟨some 4, none, .mov (.t 25)⟩,⟨some 5, none, .mov (.t 26)⟩])
 (.ret))))
def r58 : List Res := [.t 4, .t 5]
def a58 : AFn := ⟨2, c58, r58, .r⟩

/-- (bijou/week.set).without -/
def c59 : ACode := .seq (.region [⟨some 4, none, .mov (.c (.int .u64 0))⟩])
 (.seq (.region [⟨some 5, none, .mov (.t 0)⟩,⟨some 6, none, .mov (.t 1)⟩,⟨some 7, none, .bin .shl (.c (.int .u64 1)) (.t 6)⟩,⟨some 8, none, .bin .andNot (.t 5) (.t 7)⟩,⟨some 4, none, .mov (.t 8)⟩])
 (.ret))
def r59 : List Res := [.t 4]
def a59 : AFn := ⟨2, c59, r59, .v⟩

/-- (bijou/week.program).films -/
def c60 : ACode := .seq (.region [⟨some 2, none, .box (.t 0) 7⟩,⟨some 4, none, .mov (.c (.sl [] .tight))⟩])
 (.seq (.region [⟨some 10, none, .lit false 3 1 [(.c (.int .i64 (-1)))]⟩,⟨some 11, none, .mov (.t 1)⟩,⟨some 12, none, .call 83 [(.t 10), (.t 11)]⟩,⟨some 5, none, .mov (.t 12)⟩])
 (.seq (.seq (.region [⟨some 13, none, .addr (.t 2) 2⟩,⟨some 14, none, .load (.t 13) (some 4)⟩,⟨some 15, none, .mov (.c (.int .i64 0))⟩])
 (.block 0 (.loop (.seq (.region [⟨some 16, none, .bin .lss (.t 15) (.c (.int .i64 4))⟩])
 (.seq (.cond (.t 16) (.skip)
 (.exit 0))
 (.seq (.block 1 (.seq (.region [⟨some 17, none, .mov (.t 15)⟩,⟨some 18, none, .vidx (.t 14) (.t 15) 4 1 none⟩,⟨some 6, none, .mov (.t 17)⟩,⟨some 7, none, .mov (.t 18)⟩])
 (.seq (.region [⟨some 19, none, .mov (.t 7)⟩,⟨some 20, none, .call 75 [(.t 19)]⟩,⟨some 21, none, .len (.t 20)⟩,⟨some 22, none, .mov (.c (.int .i64 0))⟩])
 (.block 2 (.loop (.seq (.region [⟨some 23, none, .bin .lss (.t 22) (.t 21)⟩])
 (.seq (.cond (.t 23) (.skip)
 (.exit 2))
 (.seq (.block 3 (.seq (.region [⟨some 24, none, .idx (.t 20) (.t 22) 1⟩,⟨some 25, none, .load (.t 24) none⟩,⟨some 9, none, .mov (.t 25)⟩])
 (.region [⟨some 26, none, .mov (.t 5)⟩,⟨some 27, none, .mov (.t 9)⟩,⟨some 28, none, .mov (.t 6)⟩,⟨some 29, none, .idx (.t 26) (.t 27) 1⟩,⟨none, none, .store (.t 29) (.t 28) 1⟩])))
 (.region [⟨some 30, none, .bin .add (.t 22) (.c (.int .i64 1))⟩,⟨some 22, none, .mov (.t 30)⟩])))))))))
 (.region [⟨some 31, none, .bin .add (.t 15) (.c (.int .i64 1))⟩,⟨some 15, none, .mov (.t 31)⟩])))))))
 (.seq (.region [⟨some 32, none, .mov (.t 5)⟩,⟨some 4, none, .mov (.t 32)⟩])
 (.ret))))
def r60 : List Res := [.t 4]
def a60 : AFn := ⟨2, c60, r60, .v⟩

/-- bijou/week.slotCount -/
def c61 : ACode := .seq (.region [⟨some 1, none, .box (.t 0) 5⟩,⟨some 2, none, .mov (.c (.int .i64 0))⟩])
 (.seq (.region [⟨some 3, none, .addr (.t 1) 0⟩,⟨some 4, none, .load (.t 3) none⟩,⟨some 5, none, .addr (.t 1) 1⟩,⟨some 6, none, .load (.t 5) none⟩,⟨some 7, none, .len (.t 6)⟩,⟨some 8, none, .bin .mul (.t 4) (.t 7)⟩,⟨some 9, none, .addr (.t 1) 2⟩,⟨some 10, none, .load (.t 9) none⟩,⟨some 11, none, .bin .mul (.t 8) (.t 10)⟩,⟨some 2, none, .mov (.t 11)⟩])
 (.ret))
def r61 : List Res := [.t 2]
def a61 : AFn := ⟨1, c61, r61, .v⟩

/-- bijou/week.validWeek$1 -/
def c62 : ACode := .seq (.region [⟨some 2, none, .mov (.c (.bool false))⟩])
 (.seq (.region [⟨some 3, none, .mov (.t 0)⟩,⟨some 4, none, .call 57 [(.t 3), (.c (.int .i64 0)), (.c (.int .i64 999))]⟩,⟨some 2, none, .mov (.t 4)⟩])
 (.ret))
def r62 : List Res := [.t 2]
def a62 : AFn := ⟨1, c62, r62, .v⟩

/-- bijou/week.validWeek$2 -/
def c63 : ACode := .seq (.region [⟨some 3, none, .box (.t 0) 2⟩,⟨some 4, none, .mov (.c (.bool false))⟩])
 (.seq (.region [⟨some 5, none, .addr (.t 3) 0⟩,⟨some 6, none, .load (.t 5) none⟩,⟨some 7, none, .call 57 [(.t 6), (.c (.int .i64 0)), (.c (.int .i64 100))]⟩,⟨some 8, none, .mov (.t 7)⟩,⟨some 9, some (8, true), .addr (.t 3) 1⟩,⟨some 10, some (8, true), .load (.t 9) none⟩,⟨some 11, some (8, true), .len (.t 10)⟩,⟨some 12, some (8, true), .addr (.t 1) 2⟩,⟨some 13, some (8, true), .load (.t 12) none⟩,⟨some 14, some (8, true), .bin .eql (.t 11) (.t 13)⟩,⟨some 15, none, .pick (.t 8) (.t 14) (.c (.bool false))⟩,⟨some 16, none, .mov (.t 15)⟩,⟨some 17, some (16, true), .addr (.t 3) 1⟩,⟨some 18, some (16, true), .load (.t 17) none⟩,⟨some 19, some (16, true), .load (.t 2) none⟩,⟨some 20, some (16, true), .call 64 [(.t 18), (.t 19)]⟩,⟨some 21, none, .pick (.t 16) (.t 20) (.c (.bool false))⟩,⟨some 4, none, .mov (.t 21)⟩])
 (.ret))
def r63 : List Res := [.t 4]
def a63 : AFn := ⟨3, c63, r63, .v⟩

/-- bijou/week.all[int] -/
def c64 : ACode := .seq (.region [⟨some 3, none, .box (.t 1) 1⟩,⟨some 4, none, .mov (.c (.bool false))⟩])
 (.seq (.region [⟨some 5, none, .mov (.t 0)⟩,⟨some 6, none, .clo 85 [] [(.t 3)]⟩,⟨some 7, none, .call 84 [(.t 5), (.t 6)]⟩,⟨some 8, none, .not (.t 7)⟩,⟨some 4, none, .mov (.t 8)⟩])
 (.ret))
def r64 : List Res := [.t 4]
def a64 : AFn := ⟨2, c64, r64, .v⟩

/-- bijou/week.validSlots -/
def c65 : ACode := .seq (.region [⟨some 1, none, .box (.t 0) 5⟩,⟨some 2, none, .mov (.c (.bool false))⟩])
 (.seq (.region [⟨some 3, none, .mov (.c (.fn 86 [] []))⟩])
 (.seq (.region [⟨some 4, none, .addr (.t 1) 0⟩,⟨some 5, none, .load (.t 4) none⟩,⟨some 6, none, .call 57 [(.t 5), (.c (.int .i64 1)), (.c (.int .i64 7))]⟩,⟨some 7, none, .mov (.t 6)⟩,⟨some 8, some (7, true), .addr (.t 1) 1⟩,⟨some 9, some (7, true), .load (.t 8) none⟩,⟨some 10, some (7, true), .len (.t 9)⟩,⟨some 11, some (7, true), .call 57 [(.t 10), (.c (.int .i64 1)), (.c (.int .i64 4))]⟩,⟨some 12, none, .pick (.t 7) (.t 11) (.c (.bool false))⟩,⟨some 13, none, .mov (.t 12)⟩,⟨some 14, some (13, true), .addr (.t 1) 1⟩,⟨some 15, some (13, true), .load (.t 14) none⟩,⟨some 16, some (13, true), .mov (.t 3)⟩,⟨some 17, some (13, true), .call 64 [(.t 15), (.t 16)]⟩,⟨some 18, none, .pick (.t 13) (.t 17) (.c (.bool false))⟩,⟨some 19, none, .mov (.t 18)⟩,⟨some 20, some (19, true), .addr (.t 1) 2⟩,⟨some 21, some (19, true), .load (.t 20) none⟩,⟨some 22, some (19, true), .call 57 [(.t 21), (.c (.int .i64 1)), (.c (.int .i64 4))]⟩,⟨some 23, none, .pick (.t 19) (.t 22) (.c (.bool false))⟩,⟨some 24, none, .mov (.t 23)⟩,⟨some 25, some (24, true), .load (.t 1) (some 5)⟩,⟨some 26, some (24, true), .call 61 [(.t 25)]⟩,⟨some 27, some (24, true), .bin .leq (.t 26) (.c (.int .i64 8))⟩,⟨some 28, none, .pick (.t 24) (.t 27) (.c (.bool false))⟩,⟨some 2, none, .mov (.t 28)⟩])
 (.ret)))
def r65 : List Res := [.t 2]
def a65 : AFn := ⟨1, c65, r65, .v⟩

/-- bijou/week.all[bijou/api.Movie] -/
def c66 : ACode := .seq (.region [⟨some 3, none, .box (.t 1) 1⟩,⟨some 4, none, .mov (.c (.bool false))⟩])
 (.seq (.region [⟨some 5, none, .mov (.t 0)⟩,⟨some 6, none, .clo 88 [] [(.t 3)]⟩,⟨some 7, none, .call 87 [(.t 5), (.t 6)]⟩,⟨some 8, none, .not (.t 7)⟩,⟨some 4, none, .mov (.t 8)⟩])
 (.ret))
def r66 : List Res := [.t 4]
def a66 : AFn := ⟨2, c66, r66, .v⟩

/-- bijou/week.all[bijou/api.Deal] -/
def c67 : ACode := .seq (.region [⟨some 3, none, .box (.t 1) 1⟩,⟨some 4, none, .mov (.c (.bool false))⟩])
 (.seq (.region [⟨some 5, none, .mov (.t 0)⟩,⟨some 6, none, .clo 90 [] [(.t 3)]⟩,⟨some 7, none, .call 89 [(.t 5), (.t 6)]⟩,⟨some 8, none, .not (.t 7)⟩,⟨some 4, none, .mov (.t 8)⟩])
 (.ret))
def r67 : List Res := [.t 4]
def a67 : AFn := ⟨2, c67, r67, .v⟩

/-- bijou/week.validDeals$1 -/
def c68 : ACode := .seq (.region [⟨some 2, none, .box (.t 0) 8⟩,⟨some 3, none, .mov (.c (.bool false))⟩])
 (.seq (.region [⟨some 4, none, .addr (.t 2) 1⟩,⟨some 5, none, .load (.t 4) none⟩,⟨some 6, none, .addr (.t 1) 3⟩,⟨some 7, none, .load (.t 6) none⟩,⟨some 8, none, .len (.t 7)⟩,⟨some 9, none, .bin .sub (.t 8) (.c (.int .i64 1))⟩,⟨some 10, none, .call 57 [(.t 5), (.c (.int .i64 0)), (.t 9)]⟩,⟨some 11, none, .mov (.t 10)⟩,⟨some 12, some (11, true), .addr (.t 2) 2⟩,⟨some 13, some (11, true), .load (.t 12) none⟩,⟨some 14, some (11, true), .bin .leq (.c (.int .i64 0)) (.t 13)⟩,⟨some 15, none, .pick (.t 11) (.t 14) (.c (.bool false))⟩,⟨some 16, none, .mov (.t 15)⟩,⟨some 17, some (16, true), .addr (.t 2) 2⟩,⟨some 18, some (16, true), .load (.t 17) none⟩,⟨some 19, some (16, true), .addr (.t 2) 3⟩,⟨some 20, some (16, true), .load (.t 19) none⟩,⟨some 21, some (16, true), .bin .leq (.t 18) (.t 20)⟩,⟨some 22, none, .pick (.t 16) (.t 21) (.c (.bool false))⟩,⟨some 23, none, .mov (.t 22)⟩,⟨some 24, some (23, true), .addr (.t 2) 3⟩,⟨some 25, some (23, true), .load (.t 24) none⟩,⟨some 26, some (23, true), .addr (.t 1) 0⟩,⟨some 27, some (23, true), .load (.t 26) none⟩,⟨some 28, some (23, true), .bin .lss (.t 25) (.t 27)⟩,⟨some 29, none, .pick (.t 23) (.t 28) (.c (.bool false))⟩,⟨some 30, none, .mov (.t 29)⟩,⟨some 31, some (30, true), .addr (.t 2) 4⟩,⟨some 32, some (30, true), .load (.t 31) none⟩,⟨some 33, some (30, true), .bin .leq (.c (.int .i64 0)) (.t 32)⟩,⟨some 34, none, .pick (.t 30) (.t 33) (.c (.bool false))⟩,⟨some 35, none, .mov (.t 34)⟩,⟨some 36, some (35, true), .addr (.t 2) 4⟩,⟨some 37, some (35, true), .load (.t 36) none⟩,⟨some 38, some (35, true), .addr (.t 2) 5⟩,⟨some 39, some (35, true), .load (.t 38) none⟩,⟨some 40, some (35, true), .bin .leq (.t 37) (.t 39)⟩,⟨some 41, none, .pick (.t 35) (.t 40) (.c (.bool false))⟩,⟨some 42, none, .mov (.t 41)⟩,⟨some 43, some (42, true), .addr (.t 2) 5⟩,⟨some 44, some (42, true), .load (.t 43) none⟩,⟨some 45, some (42, true), .addr (.t 1) 2⟩,⟨some 46, some (42, true), .load (.t 45) none⟩,⟨some 47, some (42, true), .bin .lss (.t 44) (.t 46)⟩,⟨some 48, none, .pick (.t 42) (.t 47) (.c (.bool false))⟩,⟨some 49, none, .mov (.t 48)⟩,⟨some 50, some (49, true), .addr (.t 2) 6⟩,⟨some 51, some (49, true), .load (.t 50) none⟩,⟨some 52, some (49, true), .call 57 [(.t 51), (.c (.int .i64 0)), (.c (.int .i64 500))]⟩,⟨some 53, none, .pick (.t 49) (.t 52) (.c (.bool false))⟩,⟨some 54, none, .mov (.t 53)⟩,⟨some 55, some (54, true), .load (.t 2) (some 8)⟩,⟨some 56, some (54, true), .call 69 [(.t 55)]⟩,⟨some 57, none, .pick (.t 54) (.t 56) (.c (.bool false))⟩,⟨some 3, none, .mov (.t 57)⟩])
 (.ret))
def r68 : List Res := [.t 3]
def a68 : AFn := ⟨2, c68, r68, .v⟩

/-- bijou/week.validTimes -/
def c69 : ACode := .seq (.region [⟨some 1, none, .box (.t 0) 8⟩,⟨some 2, none, .mov (.c (.bool false))⟩])
 (.seq (.seq (.region [⟨some 3, none, .addr (.t 1) 0⟩,⟨some 4, none, .load (.t 3) none⟩])
 (.block 0 (.seq (.seq (.region [⟨some 6, none, .bin .eql (.t 4) (.c (.int .i64 1))⟩,⟨some 5, none, .mov (.t 6)⟩])
 (.cond (.t 5) (.skip)
 (.region [⟨some 7, none, .bin .eql (.t 4) (.c (.int .i64 2))⟩,⟨some 5, none, .mov (.t 7)⟩])))
 (.cond (.t 5) (.seq (.region [⟨some 8, none, .addr (.t 1) 7⟩,⟨some 9, none, .load (.t 8) none⟩,⟨some 10, none, .call 57 [(.t 9), (.c (.int .i64 0)), (.c (.int .i64 8))]⟩,⟨some 2, none, .mov (.t 10)⟩])
 (.ret))
 (.seq (.seq (.region [⟨some 12, none, .bin .eql (.t 4) (.c (.int .i64 3))⟩,⟨some 11, none, .mov (.t 12)⟩])
 (.cond (.t 11) (.skip)
 (.seq (.region [⟨some 13, none, .bin .eql (.t 4) (.c (.int .i64 4))⟩,⟨some 11, none, .mov (.t 13)⟩])
 (.cond (.t 11) (.skip)
 (.region [⟨some 14, none, .bin .eql (.t 4) (.c (.int .i64 5))⟩,⟨some 11, none, .mov (.t 14)⟩])))))
 (.cond (.t 11) (.seq (.region [⟨some 15, none, .addr (.t 1) 7⟩,⟨some 16, none, .load (.t 15) none⟩,⟨some 17, none, .bin .eql (.t 16) (.c (.int .i64 0))⟩,⟨some 2, none, .mov (.t 17)⟩])
 (.ret))
 (.skip)))))))
 (.seq (.region [⟨some 2, none, .mov (.c (.bool false))⟩])
 (.ret)))
def r69 : List Res := [.t 2]
def a69 : AFn := ⟨1, c69, r69, .v⟩

/-- bijou/week.checkProgram$1 -/
def c70 : ACode := .seq (.region [⟨some 3, none, .mov (.c (.bool false))⟩])
 (.seq (.region [⟨some 4, none, .mov (.t 0)⟩,⟨some 5, none, .bin .eql (.t 4) (.c (.int .i64 (-1)))⟩,⟨some 6, none, .mov (.t 5)⟩,⟨some 7, some (6, false), .mov (.t 0)⟩,⟨some 8, some (6, false), .addr (.t 1) 3⟩,⟨some 9, some (6, false), .load (.t 8) none⟩,⟨some 10, some (6, false), .len (.t 9)⟩,⟨some 11, some (6, false), .bin .sub (.t 10) (.c (.int .i64 1))⟩,⟨some 12, some (6, false), .call 57 [(.t 7), (.c (.int .i64 0)), (.t 11)]⟩,⟨some 13, none, .pick (.t 6) (.c (.bool true)) (.t 12)⟩,⟨some 3, none, .mov (.t 13)⟩])
 (.ret))
def r70 : List Res := [.t 3]
def a70 : AFn := ⟨2, c70, r70, .v⟩

/-- bijou/week.hourly -/
def c71 : ACode := .seq (.region [⟨some 3, none, .box (.t 0) 5⟩,⟨some 4, none, .box (.t 1) 8⟩,⟨some 5, none, .box (.t 2) 1⟩,⟨some 6, none, .mov (.c .nilf)⟩])
 (.seq (.region [⟨some 7, none, .clo 91 [] [(.t 4), (.t 3), (.t 5)]⟩,⟨some 6, none, .mov (.t 7)⟩])
 (.ret))
def r71 : List Res := [.t 6]
def a71 : AFn := ⟨3, c71, r71, .v⟩

/-- bijou/week.isClean -/
def c72 : ACode := .seq (.region [⟨some 3, none, .box (.t 0) 5⟩,⟨some 4, none, .box (.t 1) 8⟩,⟨some 6, none, .mov (.c (.bool false))⟩])
 (.seq (.seq (.region [⟨some 8, none, .addr (.t 4) 2⟩,⟨some 9, none, .load (.t 8) none⟩,⟨some 7, none, .mov (.t 9)⟩])
 (.block 0 (.loop (.seq (.seq (.region [⟨some 10, none, .mov (.t 7)⟩,⟨some 11, none, .addr (.t 4) 3⟩,⟨some 12, none, .load (.t 11) none⟩,⟨some 13, none, .bin .leq (.t 10) (.t 12)⟩])
 (.cond (.t 13) (.skip)
 (.exit 0)))
 (.seq (.block 1 (.seq (.region [⟨some 16, none, .load (.t 3) (some 5)⟩,⟨some 17, none, .load (.t 4) (some 8)⟩,⟨some 18, none, .mov (.t 2)⟩,⟨some 19, none, .mov (.t 7)⟩,⟨some 20, none, .call 93 [(.t 16), (.t 17), (.t 18), (.t 19)]⟩,⟨some 21, none, .not (.t 20)⟩])
 (.cond (.t 21) (.seq (.region [⟨some 6, none, .mov (.c (.bool false))⟩])
 (.ret))
 (.skip))))
 (.region [⟨some 14, none, .mov (.t 7)⟩,⟨some 15, none, .bin .add (.t 14) (.c (.int .i64 1))⟩,⟨some 7, none, .mov (.t 15)⟩]))))))
 (.seq (.region [⟨some 6, none, .mov (.c (.bool true))⟩])
 (.ret)))
def r72 : List Res := [.t 6]
def a72 : AFn := ⟨3, c72, r72, .v⟩

/-- (bijou/week.set).with -/
def c73 : ACode := .seq (.region [⟨some 4, none, .mov (.c (.int .u64 0))⟩])
 (.seq (.region [⟨some 5, none, .mov (.t 0)⟩,⟨some 6, none, .mov (.t 1)⟩,⟨some 7, none, .bin .shl (.c (.int .u64 1)) (.t 6)⟩,⟨some 8, none, .bin .or (.t 5) (.t 7)⟩,⟨some 4, none, .mov (.t 8)⟩])
 (.ret))
def r73 : List Res := [.t 4]
def a73 : AFn := ⟨2, c73, r73, .v⟩

/-- bijou/bijouref05.isKept -/
def c74 : ACode := .seq (.region [⟨some 3, none, .box (.t 0) 5⟩,⟨some 5, none, .box (.t 2) 8⟩,⟨some 6, none, .mov (.c (.bool false))⟩])
 (.seq (.region [⟨some 14, none, .addr (.t 3) 1⟩,⟨some 15, none, .load (.t 14) none⟩,⟨some 16, none, .len (.t 15)⟩,⟨some 17, none, .bin .sub (.t 16) (.c (.int .i64 1))⟩,⟨some 7, none, .mov (.t 17)⟩])
 (.seq (.region [⟨some 18, none, .load (.t 3) (some 5)⟩,⟨some 19, none, .mov (.t 1)⟩,⟨some 20, none, .load (.t 5) (some 8)⟩,⟨some 21, none, .addr (.t 5) 2⟩,⟨some 22, none, .load (.t 21) none⟩,⟨some 23, none, .addr (.t 5) 3⟩,⟨some 24, none, .load (.t 23) none⟩,⟨some 25, none, .addr (.t 5) 4⟩,⟨some 26, none, .load (.t 25) none⟩,⟨some 27, none, .addr (.t 5) 5⟩,⟨some 28, none, .load (.t 27) none⟩,⟨some 29, none, .mov (.t 7)⟩,⟨some 30, none, .call 94 [(.t 18), (.t 19), (.t 20), (.t 22), (.t 24), (.t 26), (.t 28), (.c (.int .i64 0)), (.t 29)]⟩,⟨some 8, none, .mov (.t 30)⟩])
 (.seq (.seq (.region [⟨some 31, none, .addr (.t 5) 0⟩,⟨some 32, none, .load (.t 31) none⟩])
 (.block 0 (.seq (.region [⟨some 34, none, .bin .eql (.t 32) (.c (.int .i64 1))⟩,⟨some 33, none, .mov (.t 34)⟩])
 (.cond (.t 33) (.seq (.region [⟨some 35, none, .mov (.t 8)⟩,⟨some 36, none, .addr (.t 5) 7⟩,⟨some 37, none, .load (.t 36) none⟩,⟨some 38, none, .bin .geq (.t 35) (.t 37)⟩,⟨some 6, none, .mov (.t 38)⟩])
 (.ret))
 (.seq (.region [⟨some 40, none, .bin .eql (.t 32) (.c (.int .i64 2))⟩,⟨some 39, none, .mov (.t 40)⟩])
 (.cond (.t 39) (.seq (.region [⟨some 41, none, .mov (.t 8)⟩,⟨some 42, none, .addr (.t 5) 7⟩,⟨some 43, none, .load (.t 42) none⟩,⟨some 44, none, .bin .leq (.t 41) (.t 43)⟩,⟨some 6, none, .mov (.t 44)⟩])
 (.ret))
 (.skip)))))))
 (.seq (.seq (.region [⟨some 45, none, .addr (.t 5) 2⟩,⟨some 46, none, .load (.t 45) none⟩,⟨some 9, none, .mov (.t 46)⟩])
 (.block 1 (.loop (.seq (.seq (.region [⟨some 47, none, .mov (.t 9)⟩,⟨some 48, none, .addr (.t 5) 3⟩,⟨some 49, none, .load (.t 48) none⟩,⟨some 50, none, .bin .leq (.t 47) (.t 49)⟩])
 (.cond (.t 50) (.skip)
 (.exit 1)))
 (.seq (.block 2 (.seq (.region [⟨some 10, none, .mov (.c (.bool false))⟩])
 (.seq (.seq (.region [⟨some 11, none, .mov (.c (.int .i64 0))⟩])
 (.block 3 (.loop (.seq (.seq (.region [⟨some 53, none, .mov (.t 11)⟩,⟨some 54, none, .mov (.t 7)⟩,⟨some 55, none, .bin .leq (.t 53) (.t 54)⟩])
 (.cond (.t 55) (.skip)
 (.exit 3)))
 (.seq (.block 4 (.region [⟨some 58, none, .mov (.t 10)⟩,⟨some 59, none, .mov (.t 58)⟩,⟨some 60, some (59, false), .load (.t 3) (some 5)⟩,⟨some 61, some (59, false), .mov (.t 1)⟩,⟨some 62, some (59, false), .load (.t 5) (some 8)⟩,⟨some 63, some (59, false), .mov (.t 9)⟩,⟨some 64, some (59, false), .mov (.t 9)⟩,⟨some 65, some (59, false), .addr (.t 5) 4⟩,⟨some 66, some (59, false), .load (.t 65) none⟩,⟨some 67, some (59, false), .addr (.t 5) 5⟩,⟨some 68, some (59, false), .load (.t 67) none⟩,⟨some 69, some (59, false), .mov (.t 11)⟩,⟨some 70, some (59, false), .mov (.t 11)⟩,⟨some 71, some (59, false), .call 94 [(.t 60), (.t 61), (.t 62), (.t 63), (.t 64), (.t 66), (.t 68), (.t 69), (.t 70)]⟩,⟨some 72, some (59, false), .addr (.t 5) 5⟩,⟨some 73, some (59, false), .load (.t 72) none⟩,⟨some 74, some (59, false), .addr (.t 5) 4⟩,⟨some 75, some (59, false), .load (.t 74) none⟩,⟨some 76, some (59, false), .bin .sub (.t 73) (.t 75)⟩,⟨some 77, some (59, false), .bin .add (.t 76) (.c (.int .i64 1))⟩,⟨some 78, some (59, false), .bin .eql (.t 71) (.t 77)⟩,⟨some 79, none, .pick (.t 59) (.c (.bool true)) (.t 78)⟩,⟨some 10, none, .mov (.t 79)⟩]))
 (.region [⟨some 56, none, .mov (.t 11)⟩,⟨some 57, none, .bin .add (.t 56) (.c (.int .i64 1))⟩,⟨some 11, none, .mov (.t 57)⟩]))))))
 (.seq (.seq (.region [⟨some 80, none, .addr (.t 5) 0⟩,⟨some 81, none, .load (.t 80) none⟩,⟨some 82, none, .bin .eql (.t 81) (.c (.int .i64 3))⟩,⟨some 83, none, .mov (.t 82)⟩,⟨some 84, some (83, true), .mov (.t 10)⟩,⟨some 85, some (83, true), .not (.t 84)⟩,⟨some 86, none, .pick (.t 83) (.t 85) (.c (.bool false))⟩])
 (.cond (.t 86) (.seq (.region [⟨some 6, none, .mov (.c (.bool false))⟩])
 (.ret))
 (.skip)))
 (.seq (.region [⟨some 87, none, .addr (.t 5) 4⟩,⟨some 88, none, .load (.t 87) none⟩,⟨some 12, none, .mov (.t 88)⟩])
 (.block 5 (.loop (.seq (.seq (.region [⟨some 89, none, .mov (.t 12)⟩,⟨some 90, none, .addr (.t 5) 5⟩,⟨some 91, none, .load (.t 90) none⟩,⟨some 92, none, .bin .leq (.t 89) (.t 91)⟩])
 (.cond (.t 92) (.skip)
 (.exit 5)))
 (.seq (.block 6 (.seq (.region [⟨some 95, none, .load (.t 3) (some 5)⟩,⟨some 96, none, .mov (.t 1)⟩,⟨some 97, none, .load (.t 5) (some 8)⟩,⟨some 98, none, .mov (.t 9)⟩,⟨some 99, none, .mov (.t 9)⟩,⟨some 100, none, .mov (.t 12)⟩,⟨some 101, none, .mov (.t 12)⟩,⟨some 102, none, .mov (.t 7)⟩,⟨some 103, none, .call 94 [(.t 95), (.t 96), (.t 97), (.t 98), (.t 99), (.t 100), (.t 101), (.c (.int .i64 0)), (.t 102)]⟩,⟨some 13, none, .mov (.t 103)⟩])
 (.seq (.region [⟨some 104, none, .addr (.t 5) 0⟩,⟨some 105, none, .load (.t 104) none⟩,⟨some 106, none, .bin .eql (.t 105) (.c (.int .i64 4))⟩,⟨some 107, none, .mov (.t 106)⟩,⟨some 108, some (107, true), .mov (.t 13)⟩,⟨some 109, some (107, true), .bin .gtr (.t 108) (.c (.int .i64 1))⟩,⟨some 110, none, .pick (.t 107) (.t 109) (.c (.bool false))⟩,⟨some 111, none, .mov (.t 110)⟩,⟨some 112, some (111, false), .addr (.t 5) 0⟩,⟨some 113, some (111, false), .load (.t 112) none⟩,⟨some 114, some (111, false), .bin .eql (.t 113) (.c (.int .i64 5))⟩,⟨some 115, some (111, false), .mov (.t 114)⟩,⟨some 116, some (115, true), .mov (.t 13)⟩,⟨some 117, some (115, true), .bin .eql (.t 116) (.c (.int .i64 0))⟩,⟨some 118, some (111, false), .pick (.t 115) (.t 117) (.c (.bool false))⟩,⟨some 119, none, .pick (.t 111) (.c (.bool true)) (.t 118)⟩])
 (.cond (.t 119) (.seq (.region [⟨some 6, none, .mov (.c (.bool false))⟩])
 (.ret))
 (.skip)))))
 (.region [⟨some 93, none, .mov (.t 12)⟩,⟨some 94, none, .bin .add (.t 93) (.c (.int .i64 1))⟩,⟨some 12, none, .mov (.t 94)⟩]))))))))))
 (.region [⟨some 51, none, .mov (.t 9)⟩,⟨some 52, none, .bin .add (.t 51) (.c (.int .i64 1))⟩,⟨some 9, none, .mov (.t 52)⟩]))))))
 (.seq (.region [⟨some 6, none, .mov (.c (.bool true))⟩])
 (.ret))))))
def r74 : List Res := [.t 6]
def a74 : AFn := ⟨3, c74, r74, .v⟩

/-- (bijou/week.set).numbers -/
def c75 : ACode := .seq (.region [⟨some 2, none, .mov (.c (.sl [] .tight))⟩])
 (.seq (.region [⟨some 3, none, .mov (.c (.sl [] .tight))⟩])
 (.seq (.seq (.region [⟨some 5, none, .mov (.t 0)⟩,⟨some 6, none, .call 95 [(.t 5)]⟩,⟨some 7, none, .mov (.c (.int .i64 0))⟩])
 (.block 0 (.loop (.seq (.region [⟨some 8, none, .bin .lss (.t 7) (.t 6)⟩])
 (.seq (.cond (.t 8) (.skip)
 (.exit 0))
 (.seq (.block 1 (.seq (.region [⟨some 9, none, .mov (.t 7)⟩,⟨some 4, none, .mov (.t 9)⟩])
 (.seq (.region [⟨some 10, none, .mov (.t 0)⟩,⟨some 11, none, .mov (.t 4)⟩,⟨some 12, none, .call 96 [(.t 10), (.t 11)]⟩])
 (.cond (.t 12) (.region [⟨some 13, none, .mov (.t 3)⟩,⟨some 14, none, .mov (.t 4)⟩,⟨some 15, none, .lit false 3 1 [(.t 14)]⟩,⟨some 16, none, .app false (.t 13) (.t 15) 3 1 8⟩,⟨some 3, none, .mov (.t 16)⟩])
 (.skip)))))
 (.region [⟨some 17, none, .bin .add (.t 7) (.c (.int .i64 1))⟩,⟨some 7, none, .mov (.t 17)⟩])))))))
 (.seq (.region [⟨some 18, none, .mov (.t 3)⟩,⟨some 2, none, .mov (.t 18)⟩])
 (.ret))))
def r75 : List Res := [.t 2]
def a75 : AFn := ⟨1, c75, r75, .v⟩

/-- bijou/bijouref05.Programs -/
def c76 : ACode := .seq (.region [⟨some 2, none, .box (.t 0) 5⟩,⟨some 4, none, .mov (.c (.sl [] .tight))⟩])
 (.seq (.seq (.region [⟨some 7, none, .mov (.t 1)⟩,⟨some 8, none, .len (.t 7)⟩,⟨some 9, none, .load (.t 2) (some 5)⟩,⟨some 10, none, .call 39 [(.t 9)]⟩,⟨some 11, none, .bin .eql (.t 8) (.t 10)⟩])
 (.cond (.t 11) (.seq (.region [⟨some 12, none, .mov (.t 1)⟩,⟨some 13, none, .lit false 22 1 [(.t 12)]⟩,⟨some 4, none, .mov (.t 13)⟩])
 (.ret))
 (.skip)))
 (.seq (.region [⟨some 5, none, .mov (.c (.sl [] .tight))⟩])
 (.seq (.seq (.region [⟨some 6, none, .mov (.c (.int .i64 (-1)))⟩])
 (.block 0 (.loop (.seq (.seq (.region [⟨some 14, none, .mov (.t 6)⟩,⟨some 15, none, .addr (.t 2) 3⟩,⟨some 16, none, .load (.t 15) none⟩,⟨some 17, none, .len (.t 16)⟩,⟨some 18, none, .bin .lss (.t 14) (.t 17)⟩])
 (.cond (.t 18) (.skip)
 (.exit 0)))
 (.seq (.block 1 (.regionD [⟨some 21, none, .mov (.t 5)⟩,⟨some 22, none, .load (.t 2) (some 5)⟩,⟨some 23, none, .lit false 3 1 []⟩,⟨some 24, none, .mov (.t 1)⟩,⟨some 25, none, .app false (.t 23) (.t 24) 3 1 8⟩,⟨some 26, none, .mov (.t 6)⟩,⟨some 27, none, .lit false 3 1 [(.t 26)]⟩,⟨some 28, none, .app false (.t 25) (.t 27) 3 1 8⟩,⟨some 29, none, .call 76 [(.t 22), (.t 28)]⟩,⟨some 30, none, .app false (.t 21) (.t 29) 22 1 24⟩,⟨some 5, none, .mov (.t 30)⟩] [(2, 23), (2, 25)]))
 (.region [⟨some 19, none, .mov (.t 6)⟩,⟨some 20, none, .bin .add (.t 19) (.c (.int .i64 1))⟩,⟨some 6, none, .mov (.t 20)⟩]))))))
 (.seq (.region [⟨some 31, none, .mov (.t 5)⟩,⟨some 4, none, .mov (.t 31)⟩])
 (.ret)))))
def r76 : List Res := [.t 4]
def a76 : AFn := ⟨2, c76, r76, .v⟩

/-- bijou/week.programs -/
def c77 : ACode := .seq (.region [⟨some 1, none, .box (.t 0) 5⟩,⟨some 2, none, .mov (.c .nilf)⟩])
 (.seq (.region [⟨some 5, none, .load (.t 1) (some 5)⟩,⟨some 6, none, .call 97 [(.t 5)]⟩,⟨some 3, none, .mov (.t 6)⟩])
 (.seq (.seq (.region [⟨some 7, none, .addr (.t 1) 3⟩,⟨some 8, none, .load (.t 7) none⟩,⟨some 9, none, .len (.t 8)⟩,⟨some 10, none, .mov (.c (.int .i64 0))⟩])
 (.block 0 (.loop (.seq (.region [⟨some 11, none, .bin .lss (.t 10) (.t 9)⟩])
 (.seq (.cond (.t 11) (.skip)
 (.exit 0))
 (.seq (.block 1 (.seq (.region [⟨some 12, none, .mov (.t 10)⟩,⟨some 4, none, .mov (.t 12)⟩])
 (.region [⟨some 13, none, .mov (.t 3)⟩,⟨some 14, none, .mov (.t 4)⟩,⟨some 15, none, .load (.t 1) (some 5)⟩,⟨some 16, none, .mov (.t 4)⟩,⟨some 17, none, .call 99 [(.t 15), (.t 16)]⟩,⟨some 18, none, .call 98 [(.t 13), (.t 14), (.t 17)]⟩,⟨some 3, none, .mov (.t 18)⟩])))
 (.region [⟨some 19, none, .bin .add (.t 10) (.c (.int .i64 1))⟩,⟨some 10, none, .mov (.t 19)⟩])))))))
 (.seq (.region [⟨some 20, none, .mov (.t 3)⟩,⟨some 2, none, .mov (.t 20)⟩])
 (.ret))))
def r77 : List Res := [.t 2]
def a77 : AFn := ⟨1, c77, r77, .r⟩

/-- (bijou/week.set).subsets -/
def c78 : ACode := .seq (.region [⟨some 1, none, .box (.t 0) 1⟩,⟨some 2, none, .mov (.c .nilf)⟩])
 (.seq (.region [⟨some 3, none, .clo 100 [] [(.t 1)]⟩,⟨some 2, none, .mov (.t 3)⟩])
 (.ret))
def r78 : List Res := [.t 2]
def a78 : AFn := ⟨1, c78, r78, .v⟩

/-- bijou/week.comesBefore -/
def c79 : ACode := .seq (.region [⟨some 4, none, .mov (.c (.bool false))⟩])
 (.seq (.region [⟨some 5, none, .mov (.t 0)⟩,⟨some 6, none, .len (.t 5)⟩,⟨some 7, none, .mov (.t 1)⟩,⟨some 8, none, .len (.t 7)⟩,⟨some 9, none, .bin .lss (.t 6) (.t 8)⟩,⟨some 10, none, .mov (.t 9)⟩,⟨some 11, some (10, false), .mov (.t 0)⟩,⟨some 12, some (10, false), .len (.t 11)⟩,⟨some 13, some (10, false), .mov (.t 1)⟩,⟨some 14, some (10, false), .len (.t 13)⟩,⟨some 15, some (10, false), .bin .eql (.t 12) (.t 14)⟩,⟨some 16, some (10, false), .mov (.t 15)⟩,⟨some 17, some (16, true), .mov (.t 0)⟩,⟨some 18, some (16, true), .mov (.t 1)⟩,⟨some 19, some (16, true), .call 101 [(.t 17), (.t 18)]⟩,⟨some 20, some (16, true), .bin .lss (.t 19) (.c (.int .i64 0))⟩,⟨some 21, some (10, false), .pick (.t 16) (.t 20) (.c (.bool false))⟩,⟨some 22, none, .pick (.t 10) (.c (.bool true)) (.t 21)⟩,⟨some 4, none, .mov (.t 22)⟩])
 (.ret))
def r79 : List Res := [.t 4]
def a79 : AFn := ⟨2, c79, r79, .v⟩

/-- bijou/week.below -/
def c80 : ACode := .seq (.region [⟨some 2, none, .mov (.c (.int .u64 0))⟩])
 (.seq (.region [⟨some 3, none, .mov (.t 0)⟩,⟨some 4, none, .bin .shl (.c (.int .u64 1)) (.t 3)⟩,⟨some 5, none, .bin .sub (.t 4) (.c (.int .u64 1))⟩,⟨some 2, none, .mov (.t 5)⟩])
 (.ret))
def r80 : List Res := [.t 2]
def a80 : AFn := ⟨1, c80, r80, .v⟩

/-- bijou/bijouref05.has -/
def c81 : ACode := .seq (.region [⟨some 4, none, .mov (.c (.bool false))⟩])
 (.seq (.seq (.region [⟨some 5, none, .mov (.c (.int .i64 0))⟩])
 (.block 0 (.loop (.seq (.seq (.region [⟨some 6, none, .mov (.t 5)⟩,⟨some 7, none, .mov (.t 0)⟩,⟨some 8, none, .len (.t 7)⟩,⟨some 9, none, .bin .lss (.t 6) (.t 8)⟩])
 (.cond (.t 9) (.skip)
 (.exit 0)))
 (.seq (.block 1 (.seq (.region [⟨some 12, none, .mov (.t 0)⟩,⟨some 13, none, .mov (.t 5)⟩,⟨some 14, none, .idx (.t 12) (.t 13) 1⟩,⟨some 15, none, .load (.t 14) none⟩,⟨some 16, none, .mov (.t 1)⟩,⟨some 17, none, .bin .eql (.t 15) (.t 16)⟩])
 (.cond (.t 17) (.seq (.region [⟨some 4, none, .mov (.c (.bool true))⟩])
 (.ret))
 (.skip))))
 (.region [⟨some 10, none, .mov (.t 5)⟩,⟨some 11, none, .bin .add (.t 10) (.c (.int .i64 1))⟩,⟨some 5, none, .mov (.t 11)⟩]))))))
 (.seq (.region [⟨some 4, none, .mov (.c (.bool false))⟩])
 (.ret)))
def r81 : List Res := [.t 4]
def a81 : AFn := ⟨2, c81, r81, .v⟩

/-- (bijou/week.set).holds -/
def c82 : ACode := .seq (.region [⟨some 4, none, .mov (.c (.bool false))⟩])
 (.seq (.region [⟨some 5, none, .mov (.t 0)⟩,⟨some 6, none, .mov (.t 1)⟩,⟨some 7, none, .bin .and (.t 5) (.t 6)⟩,⟨some 8, none, .mov (.t 1)⟩,⟨some 9, none, .bin .eql (.t 7) (.t 8)⟩,⟨some 4, none, .mov (.t 9)⟩])
 (.ret))
def r82 : List Res := [.t 4]
def a82 : AFn := ⟨2, c82, r82, .v⟩

/-- slices.Repeat[[]int,int] -/
def c83 : ACode := .seq (.region [⟨some 4, none, .mov (.c (.sl [] .tight))⟩])
 (.seq (.seq (.region [⟨some 9, none, .mov (.t 1)⟩,⟨some 10, none, .bin .lss (.t 9) (.c (.int .i64 0))⟩])
 (.cond (.t 10) (.region [⟨some 11, none, .bad⟩,⟨none, none, .bad⟩])
 (.skip)))
 (.seq (.region [⟨some 13, none, .mov (.t 0)⟩,⟨some 14, none, .len (.t 13)⟩,⟨some 15, none, .conv .u64 (.t 14)⟩,⟨some 16, none, .mov (.t 1)⟩,⟨some 17, none, .conv .u64 (.t 16)⟩,⟨some 18, none, .call 102 [(.t 15), (.t 17)]⟩,⟨some 12, none, .mov (.t 18)⟩,⟨some 19, none, .ext (.t 12) 0⟩,⟨some 20, none, .ext (.t 12) 1⟩,⟨some 5, none, .mov (.t 19)⟩,⟨some 6, none, .mov (.t 20)⟩])
 (.seq (.seq (.region [⟨some 21, none, .mov (.t 5)⟩,⟨some 22, none, .bin .gtr (.t 21) (.c (.int .u64 0))⟩,⟨some 23, none, .mov (.t 22)⟩,⟨some 24, some (23, false), .mov (.t 6)⟩,⟨some 25, some (23, false), .bin .gtr (.t 24) (.c (.int .u64 9223372036854775807))⟩,⟨some 26, none, .pick (.t 23) (.c (.bool true)) (.t 25)⟩])
 (.cond (.t 26) (.region [⟨some 27, none, .bad⟩,⟨none, none, .bad⟩])
 (.skip)))
 (.seq (.region [⟨some 28, none, .mov (.t 6)⟩,⟨some 29, none, .conv .i64 (.t 28)⟩,⟨some 30, none, .make (.int .i64 0) 3 1 8 (.t 29) (.t 29)⟩,⟨some 7, none, .mov (.t 30)⟩])
 (.seq (.region [⟨some 31, none, .mov (.t 7)⟩,⟨some 32, none, .mov (.t 0)⟩,⟨some 33, none, .cpy (.t 31) (.t 32) 1⟩,⟨some 8, none, .mov (.t 33)⟩])
 (.seq (.block 0 (.loop (.seq (.seq (.region [⟨some 34, none, .mov (.t 8)⟩,⟨some 35, none, .mov (.t 7)⟩,⟨some 36, none, .len (.t 35)⟩,⟨some 37, none, .bin .lss (.t 34) (.t 36)⟩])
 (.cond (.t 37) (.skip)
 (.exit 0)))
 (.block 1 (.region [⟨some 38, none, .mov (.t 8)⟩,⟨some 39, none, .mov (.t 7)⟩,⟨some 40, none, .mov (.t 8)⟩,⟨some 41, none, .slice (.t 39) (some (.t 40)) none 1⟩,⟨some 42, none, .mov (.t 7)⟩,⟨some 43, none, .mov (.t 8)⟩,⟨some 44, none, .slice (.t 42) none (some (.t 43)) 1⟩,⟨some 45, none, .cpy (.t 41) (.t 44) 1⟩,⟨some 46, none, .bin .add (.t 38) (.t 45)⟩,⟨some 8, none, .mov (.t 46)⟩])))))
 (.seq (.region [⟨some 47, none, .mov (.t 7)⟩,⟨some 4, none, .mov (.t 47)⟩])
 (.ret))))))))
def r83 : List Res := [.t 4]
def a83 : AFn := ⟨2, c83, r83, .o⟩

/-- slices.ContainsFunc[[]int,int] -/
def c84 : ACode := .seq (.region [⟨some 4, none, .mov (.c (.bool false))⟩])
 (.seq (.region [⟨some 5, none, .mov (.t 0)⟩,⟨some 6, none, .mov (.t 1)⟩,⟨some 7, none, .call 103 [(.t 5), (.t 6)]⟩,⟨some 8, none, .bin .geq (.t 7) (.c (.int .i64 0))⟩,⟨some 4, none, .mov (.t 8)⟩])
 (.ret))
def r84 : List Res := [.t 4]
def a84 : AFn := ⟨2, c84, r84, .v⟩

/-- bijou/week.all[int]$1 -/
def c85 : ACode := .seq (.region [⟨some 3, none, .mov (.c (.bool false))⟩])
 (.seq (.region [⟨some 4, none, .load (.t 1) none⟩,⟨some 5, none, .mov (.t 0)⟩,⟨some 6, none, .callv (.t 4) [(.t 5)]⟩,⟨some 7, none, .not (.t 6)⟩,⟨some 3, none, .mov (.t 7)⟩])
 (.ret))
def r85 : List Res := [.t 3]
def a85 : AFn := ⟨2, c85, r85, .v⟩

/-- bijou/week.validSlots$1 -/
def c86 : ACode := .seq (.region [⟨some 2, none, .mov (.c (.bool false))⟩])
 (.seq (.region [⟨some 3, none, .mov (.t 0)⟩,⟨some 4, none, .call 57 [(.t 3), (.c (.int .i64 1)), (.c (.int .i64 500))]⟩,⟨some 2, none, .mov (.t 4)⟩])
 (.ret))
def r86 : List Res := [.t 2]
def a86 : AFn := ⟨1, c86, r86, .v⟩

/-- slices.ContainsFunc[[]bijou/api.Movie,bijou/api.Movie] -/
def c87 : ACode := .seq (.region [⟨some 4, none, .mov (.c (.bool false))⟩])
 (.seq (.region [⟨some 5, none, .mov (.t 0)⟩,⟨some 6, none, .mov (.t 1)⟩,⟨some 7, none, .call 104 [(.t 5), (.t 6)]⟩,⟨some 8, none, .bin .geq (.t 7) (.c (.int .i64 0))⟩,⟨some 4, none, .mov (.t 8)⟩])
 (.ret))
def r87 : List Res := [.t 4]
def a87 : AFn := ⟨2, c87, r87, .v⟩

/-- bijou/week.all[bijou/api.Movie]$1 -/
def c88 : ACode := .seq (.region [⟨some 2, none, .box (.t 0) 2⟩,⟨some 3, none, .mov (.c (.bool false))⟩])
 (.seq (.region [⟨some 4, none, .load (.t 1) none⟩,⟨some 5, none, .load (.t 2) (some 2)⟩,⟨some 6, none, .callv (.t 4) [(.t 5)]⟩,⟨some 7, none, .not (.t 6)⟩,⟨some 3, none, .mov (.t 7)⟩])
 (.ret))
def r88 : List Res := [.t 3]
def a88 : AFn := ⟨2, c88, r88, .v⟩

/-- slices.ContainsFunc[[]bijou/api.Deal,bijou/api.Deal] -/
def c89 : ACode := .seq (.region [⟨some 4, none, .mov (.c (.bool false))⟩])
 (.seq (.region [⟨some 5, none, .mov (.t 0)⟩,⟨some 6, none, .mov (.t 1)⟩,⟨some 7, none, .call 105 [(.t 5), (.t 6)]⟩,⟨some 8, none, .bin .geq (.t 7) (.c (.int .i64 0))⟩,⟨some 4, none, .mov (.t 8)⟩])
 (.ret))
def r89 : List Res := [.t 4]
def a89 : AFn := ⟨2, c89, r89, .v⟩

/-- bijou/week.all[bijou/api.Deal]$1 -/
def c90 : ACode := .seq (.region [⟨some 2, none, .box (.t 0) 8⟩,⟨some 3, none, .mov (.c (.bool false))⟩])
 (.seq (.region [⟨some 4, none, .load (.t 1) none⟩,⟨some 5, none, .load (.t 2) (some 8)⟩,⟨some 6, none, .callv (.t 4) [(.t 5)]⟩,⟨some 7, none, .not (.t 6)⟩,⟨some 3, none, .mov (.t 7)⟩])
 (.ret))
def r90 : List Res := [.t 3]
def a90 : AFn := ⟨2, c90, r90, .v⟩

/-- bijou/week.hourly$1 -/
def c91 : ACode := .seq (.region [⟨some 7, none, .addr (.t 1) 2⟩,⟨some 8, none, .load (.t 7) none⟩,⟨some 5, none, .mov (.t 8)⟩])
 (.block 0 (.loop (.seq (.seq (.region [⟨some 9, none, .mov (.t 5)⟩,⟨some 10, none, .addr (.t 1) 3⟩,⟨some 11, none, .load (.t 10) none⟩,⟨some 12, none, .bin .leq (.t 9) (.t 11)⟩])
 (.cond (.t 12) (.skip)
 (.exit 0)))
 (.seq (.block 1 (.seq (.region [⟨some 15, none, .addr (.t 1) 4⟩,⟨some 16, none, .load (.t 15) none⟩,⟨some 6, none, .mov (.t 16)⟩])
 (.block 2 (.loop (.seq (.seq (.region [⟨some 17, none, .mov (.t 6)⟩,⟨some 18, none, .addr (.t 1) 5⟩,⟨some 19, none, .load (.t 18) none⟩,⟨some 20, none, .bin .leq (.t 17) (.t 19)⟩])
 (.cond (.t 20) (.skip)
 (.exit 2)))
 (.seq (.block 3 (.seq (.region [⟨some 23, none, .mov (.t 0)⟩,⟨some 24, none, .load (.t 2) (some 5)⟩,⟨some 25, none, .load (.t 1) (some 8)⟩,⟨some 26, none, .load (.t 3) none⟩,⟨some 27, none, .mov (.t 5)⟩,⟨some 28, none, .mov (.t 6)⟩,⟨some 29, none, .call 92 [(.t 24), (.t 25), (.t 26), (.t 27), (.t 28)]⟩,⟨some 30, none, .callv (.t 23) [(.t 29)]⟩,⟨some 31, none, .not (.t 30)⟩])
 (.cond (.t 31) (.ret)
 (.skip))))
 (.region [⟨some 21, none, .mov (.t 6)⟩,⟨some 22, none, .bin .add (.t 21) (.c (.int .i64 1))⟩,⟨some 6, none, .mov (.t 22)⟩])))))))
 (.region [⟨some 13, none, .mov (.t 5)⟩,⟨some 14, none, .bin .add (.t 13) (.c (.int .i64 1))⟩,⟨some 5, none, .mov (.t 14)⟩])))))
def r91 : List Res := []
def a91 : AFn := ⟨4, c91, r91, .v⟩

/-- bijou/week.screens -/
def c92 : ACode := .seq (.region [⟨some 5, none, .box (.t 0) 5⟩,⟨some 6, none, .box (.t 1) 8⟩,⟨some 10, none, .mov (.c (.int .i64 0))⟩])
 (.seq (.region [⟨some 11, none, .mov (.c (.int .i64 0))⟩])
 (.seq (.seq (.region [⟨some 14, none, .addr (.t 5) 1⟩,⟨some 15, none, .load (.t 14) none⟩,⟨some 16, none, .len (.t 15)⟩,⟨some 17, none, .mov (.c (.int .i64 0))⟩])
 (.block 0 (.loop (.seq (.region [⟨some 18, none, .bin .lss (.t 17) (.t 16)⟩])
 (.seq (.cond (.t 18) (.skip)
 (.exit 0))
 (.seq (.block 1 (.seq (.region [⟨some 19, none, .mov (.t 17)⟩,⟨some 20, none, .idx (.t 15) (.t 17) 1⟩,⟨some 21, none, .load (.t 20) none⟩,⟨some 12, none, .mov (.t 19)⟩,⟨some 13, none, .mov (.t 21)⟩])
 (.seq (.region [⟨some 22, none, .mov (.t 13)⟩,⟨some 23, none, .addr (.t 6) 6⟩,⟨some 24, none, .load (.t 23) none⟩,⟨some 25, none, .bin .geq (.t 22) (.t 24)⟩,⟨some 26, none, .mov (.t 25)⟩,⟨some 27, some (26, true), .mov (.t 2)⟩,⟨some 28, some (26, true), .load (.t 5) (some 5)⟩,⟨some 29, some (26, true), .mov (.t 3)⟩,⟨some 30, some (26, true), .mov (.t 12)⟩,⟨some 31, some (26, true), .mov (.t 4)⟩,⟨some 32, some (26, true), .call 106 [(.t 28), (.t 29), (.t 30), (.t 31)]⟩,⟨some 33, some (26, true), .call 96 [(.t 27), (.t 32)]⟩,⟨some 34, none, .pick (.t 26) (.t 33) (.c (.bool false))⟩])
 (.cond (.t 34) (.region [⟨some 35, none, .mov (.t 11)⟩,⟨some 36, none, .bin .add (.t 35) (.c (.int .i64 1))⟩,⟨some 11, none, .mov (.t 36)⟩])
 (.skip)))))
 (.region [⟨some 37, none, .bin .add (.t 17) (.c (.int .i64 1))⟩,⟨some 17, none, .mov (.t 37)⟩])))))))
 (.seq (.region [⟨some 38, none, .mov (.t 11)⟩,⟨some 10, none, .mov (.t 38)⟩])
 (.ret))))
def r92 : List Res := [.t 10]
def a92 : AFn := ⟨5, c92, r92, .v⟩

/-- bijou/week.hasScreen -/
def c93 : ACode := .seq (.region [⟨some 4, none, .box (.t 0) 5⟩,⟨some 5, none, .box (.t 1) 8⟩,⟨some 8, none, .mov (.c (.bool false))⟩])
 (.seq (.skip)
 (.seq (.seq (.region [⟨some 12, none, .addr (.t 4) 1⟩,⟨some 13, none, .load (.t 12) none⟩,⟨some 14, none, .len (.t 13)⟩,⟨some 15, none, .mov (.c (.int .i64 0))⟩])
 (.block 0 (.loop (.seq (.region [⟨some 16, none, .bin .lss (.t 15) (.t 14)⟩])
 (.seq (.cond (.t 16) (.skip)
 (.exit 0))
 (.seq (.block 1 (.seq (.region [⟨some 17, none, .mov (.t 15)⟩,⟨some 18, none, .idx (.t 13) (.t 15) 1⟩,⟨some 19, none, .load (.t 18) none⟩,⟨some 9, none, .mov (.t 17)⟩,⟨some 10, none, .mov (.t 19)⟩])
 (.seq (.seq (.region [⟨some 20, none, .mov (.t 10)⟩,⟨some 21, none, .addr (.t 5) 6⟩,⟨some 22, none, .load (.t 21) none⟩,⟨some 23, none, .bin .lss (.t 20) (.t 22)⟩])
 (.cond (.t 23) (.exit 1)
 (.skip)))
 (.seq (.seq (.region [⟨some 24, none, .addr (.t 5) 4⟩,⟨some 25, none, .load (.t 24) none⟩,⟨some 11, none, .mov (.t 25)⟩])
 (.block 2 (.loop (.seq (.seq (.region [⟨some 26, none, .mov (.t 11)⟩,⟨some 27, none, .addr (.t 5) 5⟩,⟨some 28, none, .load (.t 27) none⟩,⟨some 29, none, .bin .leq (.t 26) (.t 28)⟩])
 (.cond (.t 29) (.skip)
 (.exit 2)))
 (.seq (.block 3 (.seq (.region [⟨some 32, none, .mov (.t 2)⟩,⟨some 33, none, .load (.t 4) (some 5)⟩,⟨some 34, none, .mov (.t 3)⟩,⟨some 35, none, .mov (.t 9)⟩,⟨some 36, none, .mov (.t 11)⟩,⟨some 37, none, .call 106 [(.t 33), (.t 34), (.t 35), (.t 36)]⟩,⟨some 38, none, .call 96 [(.t 32), (.t 37)]⟩,⟨some 39, none, .not (.t 38)⟩])
 (.cond (.t 39) (.exit 1)
 (.skip))))
 (.region [⟨some 30, none, .mov (.t 11)⟩,⟨some 31, none, .bin .add (.t 30) (.c (.int .i64 1))⟩,⟨some 11, none, .mov (.t 31)⟩]))))))
 (.seq (.region [⟨some 8, none, .mov (.c (.bool true))⟩])
 (.ret))))))
 (.region [⟨some 40, none, .bin .add (.t 15) (.c (.int .i64 1))⟩,⟨some 15, none, .mov (.t 40)⟩])))))))
 (.seq (.region [⟨some 8, none, .mov (.c (.bool false))⟩])
 (.ret))))
def r93 : List Res := [.t 8]
def a93 : AFn := ⟨4, c93, r93, .v⟩

/-- bijou/bijouref05.shows -/
def c94 : ACode := .seq (.region [⟨some 9, none, .box (.t 0) 5⟩,⟨some 11, none, .box (.t 2) 8⟩,⟨some 18, none, .mov (.c (.int .i64 0))⟩])
 (.seq (.region [⟨some 19, none, .mov (.c (.int .i64 0))⟩])
 (.seq (.seq (.region [⟨some 23, none, .mov (.t 3)⟩,⟨some 20, none, .mov (.t 23)⟩])
 (.block 0 (.loop (.seq (.seq (.region [⟨some 24, none, .mov (.t 20)⟩,⟨some 25, none, .mov (.t 4)⟩,⟨some 26, none, .bin .leq (.t 24) (.t 25)⟩])
 (.cond (.t 26) (.skip)
 (.exit 0)))
 (.seq (.block 1 (.seq (.region [⟨some 29, none, .mov (.t 7)⟩,⟨some 21, none, .mov (.t 29)⟩])
 (.block 2 (.loop (.seq (.seq (.region [⟨some 30, none, .mov (.t 21)⟩,⟨some 31, none, .mov (.t 8)⟩,⟨some 32, none, .bin .leq (.t 30) (.t 31)⟩])
 (.cond (.t 32) (.skip)
 (.exit 2)))
 (.seq (.block 3 (.seq (.region [⟨some 35, none, .mov (.t 5)⟩,⟨some 22, none, .mov (.t 35)⟩])
 (.block 4 (.loop (.seq (.seq (.region [⟨some 36, none, .mov (.t 22)⟩,⟨some 37, none, .mov (.t 6)⟩,⟨some 38, none, .bin .leq (.t 36) (.t 37)⟩])
 (.cond (.t 38) (.skip)
 (.exit 4)))
 (.seq (.block 5 (.seq (.region [⟨some 41, none, .addr (.t 9) 1⟩,⟨some 42, none, .load (.t 41) none⟩,⟨some 43, none, .mov (.t 21)⟩,⟨some 44, none, .idx (.t 42) (.t 43) 1⟩,⟨some 45, none, .load (.t 44) none⟩,⟨some 46, none, .addr (.t 11) 6⟩,⟨some 47, none, .load (.t 46) none⟩,⟨some 48, none, .bin .geq (.t 45) (.t 47)⟩,⟨some 49, none, .mov (.t 48)⟩,⟨some 50, some (49, true), .mov (.t 1)⟩,⟨some 51, some (49, true), .load (.t 9) (some 5)⟩,⟨some 52, some (49, true), .mov (.t 20)⟩,⟨some 53, some (49, true), .mov (.t 21)⟩,⟨some 54, some (49, true), .mov (.t 22)⟩,⟨some 55, some (49, true), .call 33 [(.t 51), (.t 52), (.t 53), (.t 54)]⟩,⟨some 56, some (49, true), .idx (.t 50) (.t 55) 1⟩,⟨some 57, some (49, true), .load (.t 56) none⟩,⟨some 58, some (49, true), .addr (.t 11) 1⟩,⟨some 59, some (49, true), .load (.t 58) none⟩,⟨some 60, some (49, true), .bin .eql (.t 57) (.t 59)⟩,⟨some 61, none, .pick (.t 49) (.t 60) (.c (.bool false))⟩])
 (.cond (.t 61) (.region [⟨some 62, none, .mov (.t 19)⟩,⟨some 63, none, .bin .add (.t 62) (.c (.int .i64 1))⟩,⟨some 19, none, .mov (.t 63)⟩])
 (.skip))))
 (.region [⟨some 39, none, .mov (.t 22)⟩,⟨some 40, none, .bin .add (.t 39) (.c (.int .i64 1))⟩,⟨some 22, none, .mov (.t 40)⟩])))))))
 (.region [⟨some 33, none, .mov (.t 21)⟩,⟨some 34, none, .bin .add (.t 33) (.c (.int .i64 1))⟩,⟨some 21, none, .mov (.t 34)⟩])))))))
 (.region [⟨some 27, none, .mov (.t 20)⟩,⟨some 28, none, .bin .add (.t 27) (.c (.int .i64 1))⟩,⟨some 20, none, .mov (.t 28)⟩]))))))
 (.seq (.region [⟨some 64, none, .mov (.t 19)⟩,⟨some 18, none, .mov (.t 64)⟩])
 (.ret))))
def r94 : List Res := [.t 18]
def a94 : AFn := ⟨9, c94, r94, .v⟩

/-- math/bits.Len -/
def c95 : ACode := .seq (.region [⟨some 2, none, .mov (.c (.int .i64 0))⟩])
 (.seq (.cond (.c (.bool false)) (.seq (.region [⟨some 3, none, .mov (.t 0)⟩,⟨some 4, none, .conv .u32 (.t 3)⟩,⟨some 5, none, .call 107 [(.t 4)]⟩,⟨some 2, none, .mov (.t 5)⟩])
 (.ret))
 (.skip))
 (.seq (.region [⟨some 6, none, .mov (.t 0)⟩,⟨some 7, none, .call 108 [(.t 6)]⟩,⟨some 2, none, .mov (.t 7)⟩])
 (.ret)))
def r95 : List Res := [.t 2]
def a95 : AFn := ⟨1, c95, r95, .v⟩

/-- (bijou/week.set).has -/
def c96 : ACode := .seq (.region [⟨some 4, none, .mov (.c (.bool false))⟩])
 (.seq (.region [⟨some 5, none, .mov (.t 0)⟩,⟨some 6, none, .mov (.t 1)⟩,⟨some 7, none, .bin .shr (.t 5) (.t 6)⟩,⟨some 8, none, .bin .and (.t 7) (.c (.int .u64 1))⟩,⟨some 9, none, .bin .eql (.t 8) (.c (.int .u64 1))⟩,⟨some 4, none, .mov (.t 9)⟩])
 (.ret))
def r96 : List Res := [.t 4]
def a96 : AFn := ⟨2, c96, r96, .v⟩

/-- bijou/week.dark -/
def c97 : ACode := .seq (.region [⟨some 1, none, .box (.t 0) 5⟩,⟨some 2, none, .mov (.c .nilf)⟩])
 (.seq (.region [⟨some 3, none, .clo 109 [] [(.t 1)]⟩,⟨some 2, none, .mov (.t 3)⟩])
 (.ret))
def r97 : List Res := [.t 2]
def a97 : AFn := ⟨1, c97, r97, .r⟩

/-- bijou/week.adding -/
def c98 : ACode := .seq (.region [⟨some 3, none, .box (.t 0) 1⟩,⟨some 4, none, .box (.t 1) 1⟩,⟨some 5, none, .box (.t 2) 1⟩,⟨some 6, none, .mov (.c .nilf)⟩])
 (.seq (.region [⟨some 7, none, .clo 110 [] [(.t 3), (.t 4), (.t 5)]⟩,⟨some 6, none, .mov (.t 7)⟩])
 (.ret))
def r98 : List Res := [.t 6]
def a98 : AFn := ⟨3, c98, r98, .r⟩

/-- bijou/week.outcomes -/
def c99 : ACode := .seq (.region [⟨some 2, none, .box (.t 0) 5⟩,⟨some 3, none, .box (.t 1) 1⟩,⟨some 4, none, .mov (.c (.sl [] .tight))⟩])
 (.seq (.region [⟨some 7, none, .load (.t 2) (some 5)⟩,⟨some 8, none, .call 61 [(.t 7)]⟩,⟨some 9, none, .bin .shl (.c (.int .i64 1)) (.t 8)⟩,⟨some 10, none, .make (.agg [(.int .i64 0), (.int .u64 0)]) 71 2 16 (.t 9) (.t 9)⟩,⟨some 5, none, .new (.sl [] .tight) 1⟩,⟨none, none, .store (.t 5) (.t 10) 1⟩])
 (.seq (.seq (.region [⟨some 11, none, .load (.t 2) (some 5)⟩,⟨some 12, none, .call 61 [(.t 11)]⟩,⟨some 13, none, .call 80 [(.t 12)]⟩,⟨some 14, none, .call 78 [(.t 13)]⟩])
 (.block 0 (.range (.t 14) [15] (.region [⟨some 6, none, .mov (.t 15)⟩])
 (.block 1 (.region [⟨some 16, none, .load (.t 5) none⟩,⟨some 17, none, .mov (.t 6)⟩,⟨some 18, none, .load (.t 2) (some 5)⟩,⟨some 19, none, .load (.t 3) none⟩,⟨some 20, none, .mov (.t 6)⟩,⟨some 21, none, .call 47 [(.t 18), (.t 19), (.t 20)]⟩,⟨some 22, none, .load (.t 2) (some 5)⟩,⟨some 23, none, .load (.t 3) none⟩,⟨some 24, none, .mov (.t 6)⟩,⟨some 25, none, .call 112 [(.t 22), (.t 23), (.t 24)]⟩,⟨some 26, none, .build [(.int .i64 0), (.int .u64 0)] [(0, 1, (.t 21)), (1, 1, (.t 25))]⟩,⟨some 27, none, .idx (.t 16) (.t 17) 2⟩,⟨none, none, .store (.t 27) (.t 26) 2⟩])))))
 (.seq (.region [⟨some 28, none, .load (.t 5) none⟩,⟨some 4, none, .mov (.t 28)⟩])
 (.ret))))
def r99 : List Res := [.t 4]
def a99 : AFn := ⟨2, c99, r99, .v⟩

/-- (bijou/week.set).subsets$1 -/
def c100 : ACode := .seq (.region [⟨some 3, none, .mov (.c (.int .u64 0))⟩])
 (.block 0 (.loop (.seq (.seq (.region [⟨some 4, none, .mov (.t 0)⟩,⟨some 5, none, .mov (.t 3)⟩,⟨some 6, none, .callv (.t 4) [(.t 5)]⟩,⟨some 7, none, .mov (.t 6)⟩,⟨some 8, some (7, true), .mov (.t 3)⟩,⟨some 9, some (7, true), .load (.t 1) none⟩,⟨some 10, some (7, true), .bin .neq (.t 8) (.t 9)⟩,⟨some 11, none, .pick (.t 7) (.t 10) (.c (.bool false))⟩])
 (.cond (.t 11) (.skip)
 (.exit 0)))
 (.block 1 (.region [⟨some 12, none, .mov (.t 3)⟩,⟨some 13, none, .load (.t 1) none⟩,⟨some 14, none, .bin .sub (.t 12) (.t 13)⟩,⟨some 15, none, .load (.t 1) none⟩,⟨some 16, none, .bin .and (.t 14) (.t 15)⟩,⟨some 3, none, .mov (.t 16)⟩])))))
def r100 : List Res := []
def a100 : AFn := ⟨2, c100, r100, .v⟩

/-- slices.Compare[[]int,int] -/
def c101 : ACode := .seq (.region [⟨some 4, none, .mov (.c (.int .i64 0))⟩])
 (.seq (.seq (.region [⟨some 9, none, .mov (.t 0)⟩,⟨some 10, none, .len (.t 9)⟩,⟨some 11, none, .mov (.c (.int .i64 0))⟩])
 (.block 0 (.loop (.seq (.region [⟨some 12, none, .bin .lss (.t 11) (.t 10)⟩])
 (.seq (.cond (.t 12) (.skip)
 (.exit 0))
 (.seq (.block 1 (.seq (.region [⟨some 13, none, .mov (.t 11)⟩,⟨some 14, none, .idx (.t 9) (.t 11) 1⟩,⟨some 15, none, .load (.t 14) none⟩,⟨some 5, none, .mov (.t 13)⟩,⟨some 6, none, .mov (.t 15)⟩])
 (.seq (.seq (.region [⟨some 16, none, .mov (.t 5)⟩,⟨some 17, none, .mov (.t 1)⟩,⟨some 18, none, .len (.t 17)⟩,⟨some 19, none, .bin .geq (.t 16) (.t 18)⟩])
 (.cond (.t 19) (.seq (.region [⟨some 4, none, .mov (.c (.int .i64 1))⟩])
 (.ret))
 (.skip)))
 (.seq (.region [⟨some 20, none, .mov (.t 1)⟩,⟨some 21, none, .mov (.t 5)⟩,⟨some 22, none, .idx (.t 20) (.t 21) 1⟩,⟨some 23, none, .load (.t 22) none⟩,⟨some 7, none, .mov (.t 23)⟩])
 (.seq (.region [⟨some 24, none, .mov (.t 6)⟩,⟨some 25, none, .mov (.t 7)⟩,⟨some 26, none, .call 113 [(.t 24), (.t 25)]⟩,⟨some 8, none, .mov (.t 26)⟩])
 (.seq (.region [⟨some 27, none, .mov (.t 8)⟩,⟨some 28, none, .bin .neq (.t 27) (.c (.int .i64 0))⟩])
 (.cond (.t 28) (.seq (.region [⟨some 29, none, .mov (.t 8)⟩,⟨some 4, none, .mov (.t 29)⟩])
 (.ret))
 (.skip))))))))
 (.region [⟨some 30, none, .bin .add (.t 11) (.c (.int .i64 1))⟩,⟨some 11, none, .mov (.t 30)⟩])))))))
 (.seq (.seq (.region [⟨some 31, none, .mov (.t 0)⟩,⟨some 32, none, .len (.t 31)⟩,⟨some 33, none, .mov (.t 1)⟩,⟨some 34, none, .len (.t 33)⟩,⟨some 35, none, .bin .lss (.t 32) (.t 34)⟩])
 (.cond (.t 35) (.seq (.region [⟨some 4, none, .mov (.c (.int .i64 (-1)))⟩])
 (.ret))
 (.skip)))
 (.seq (.region [⟨some 4, none, .mov (.c (.int .i64 0))⟩])
 (.ret))))
def r101 : List Res := [.t 4]
def a101 : AFn := ⟨2, c101, r101, .v⟩

/-- math/bits.Mul -/
def c102 : ACode := .seq (.region [⟨some 4, none, .mov (.c (.int .u64 0))⟩,⟨some 5, none, .mov (.c (.int .u64 0))⟩])
 (.seq (.cond (.c (.bool false)) (.seq (.region [⟨some 11, none, .mov (.t 0)⟩,⟨some 12, none, .conv .u32 (.t 11)⟩,⟨some 13, none, .mov (.t 1)⟩,⟨some 14, none, .conv .u32 (.t 13)⟩,⟨some 15, none, .call 114 [(.t 12), (.t 14)]⟩,⟨some 10, none, .mov (.t 15)⟩,⟨some 16, none, .ext (.t 10) 0⟩,⟨some 17, none, .ext (.t 10) 1⟩,⟨some 6, none, .mov (.t 16)⟩,⟨some 7, none, .mov (.t 17)⟩])
 (.seq (.region [⟨some 18, none, .mov (.t 6)⟩,⟨some 19, none, .conv .u64 (.t 18)⟩,⟨some 20, none, .mov (.t 7)⟩,⟨some 21, none, .conv .u64 (.t 20)⟩,⟨some 4, none, .mov (.t 19)⟩,⟨some 5, none, .mov (.t 21)⟩])
 (.ret)))
 (.skip))
 (.seq (.region [⟨some 23, none, .mov (.t 0)⟩,⟨some 24, none, .mov (.t 1)⟩,⟨some 25, none, .call 115 [(.t 23), (.t 24)]⟩,⟨some 22, none, .mov (.t 25)⟩,⟨some 26, none, .ext (.t 22) 0⟩,⟨some 27, none, .ext (.t 22) 1⟩,⟨some 8, none, .mov (.t 26)⟩,⟨some 9, none, .mov (.t 27)⟩])
 (.seq (.region [⟨some 28, none, .mov (.t 8)⟩,⟨some 29, none, .mov (.t 9)⟩,⟨some 4, none, .mov (.t 28)⟩,⟨some 5, none, .mov (.t 29)⟩])
 (.ret))))
def r102 : List Res := [.t 4, .t 5]
def a102 : AFn := ⟨2, c102, r102, .v⟩

/-- slices.IndexFunc[[]int,int] -/
def c103 : ACode := .seq (.region [⟨some 4, none, .mov (.c (.int .i64 0))⟩])
 (.seq (.seq (.region [⟨some 6, none, .mov (.t 0)⟩,⟨some 7, none, .len (.t 6)⟩,⟨some 8, none, .mov (.c (.int .i64 0))⟩])
 (.block 0 (.loop (.seq (.region [⟨some 9, none, .bin .lss (.t 8) (.t 7)⟩])
 (.seq (.cond (.t 9) (.skip)
 (.exit 0))
 (.seq (.block 1 (.seq (.region [⟨some 10, none, .mov (.t 8)⟩,⟨some 5, none, .mov (.t 10)⟩])
 (.seq (.region [⟨some 11, none, .mov (.t 1)⟩,⟨some 12, none, .mov (.t 0)⟩,⟨some 13, none, .mov (.t 5)⟩,⟨some 14, none, .idx (.t 12) (.t 13) 1⟩,⟨some 15, none, .load (.t 14) none⟩,⟨some 16, none, .callv (.t 11) [(.t 15)]⟩])
 (.cond (.t 16) (.seq (.region [⟨some 17, none, .mov (.t 5)⟩,⟨some 4, none, .mov (.t 17)⟩])
 (.ret))
 (.skip)))))
 (.region [⟨some 18, none, .bin .add (.t 8) (.c (.int .i64 1))⟩,⟨some 8, none, .mov (.t 18)⟩])))))))
 (.seq (.region [⟨some 4, none, .mov (.c (.int .i64 (-1)))⟩])
 (.ret)))
def r103 : List Res := [.t 4]
def a103 : AFn := ⟨2, c103, r103, .v⟩

/-- slices.IndexFunc[[]bijou/api.Movie,bijou/api.Movie] -/
def c104 : ACode := .seq (.region [⟨some 4, none, .mov (.c (.int .i64 0))⟩])
 (.seq (.seq (.region [⟨some 6, none, .mov (.t 0)⟩,⟨some 7, none, .len (.t 6)⟩,⟨some 8, none, .mov (.c (.int .i64 0))⟩])
 (.block 0 (.loop (.seq (.region [⟨some 9, none, .bin .lss (.t 8) (.t 7)⟩])
 (.seq (.cond (.t 9) (.skip)
 (.exit 0))
 (.seq (.block 1 (.seq (.region [⟨some 10, none, .mov (.t 8)⟩,⟨some 5, none, .mov (.t 10)⟩])
 (.seq (.region [⟨some 11, none, .mov (.t 1)⟩,⟨some 12, none, .mov (.t 0)⟩,⟨some 13, none, .mov (.t 5)⟩,⟨some 14, none, .idx (.t 12) (.t 13) 2⟩,⟨some 15, none, .load (.t 14) (some 2)⟩,⟨some 16, none, .callv (.t 11) [(.t 15)]⟩])
 (.cond (.t 16) (.seq (.region [⟨some 17, none, .mov (.t 5)⟩,⟨some 4, none, .mov (.t 17)⟩])
 (.ret))
 (.skip)))))
 (.region [⟨some 18, none, .bin .add (.t 8) (.c (.int .i64 1))⟩,⟨some 8, none, .mov (.t 18)⟩])))))))
 (.seq (.region [⟨some 4, none, .mov (.c (.int .i64 (-1)))⟩])
 (.ret)))
def r104 : List Res := [.t 4]
def a104 : AFn := ⟨2, c104, r104, .v⟩

/-- slices.IndexFunc[[]bijou/api.Deal,bijou/api.Deal] -/
def c105 : ACode := .seq (.region [⟨some 4, none, .mov (.c (.int .i64 0))⟩])
 (.seq (.seq (.region [⟨some 6, none, .mov (.t 0)⟩,⟨some 7, none, .len (.t 6)⟩,⟨some 8, none, .mov (.c (.int .i64 0))⟩])
 (.block 0 (.loop (.seq (.region [⟨some 9, none, .bin .lss (.t 8) (.t 7)⟩])
 (.seq (.cond (.t 9) (.skip)
 (.exit 0))
 (.seq (.block 1 (.seq (.region [⟨some 10, none, .mov (.t 8)⟩,⟨some 5, none, .mov (.t 10)⟩])
 (.seq (.region [⟨some 11, none, .mov (.t 1)⟩,⟨some 12, none, .mov (.t 0)⟩,⟨some 13, none, .mov (.t 5)⟩,⟨some 14, none, .idx (.t 12) (.t 13) 8⟩,⟨some 15, none, .load (.t 14) (some 8)⟩,⟨some 16, none, .callv (.t 11) [(.t 15)]⟩])
 (.cond (.t 16) (.seq (.region [⟨some 17, none, .mov (.t 5)⟩,⟨some 4, none, .mov (.t 17)⟩])
 (.ret))
 (.skip)))))
 (.region [⟨some 18, none, .bin .add (.t 8) (.c (.int .i64 1))⟩,⟨some 8, none, .mov (.t 18)⟩])))))))
 (.seq (.region [⟨some 4, none, .mov (.c (.int .i64 (-1)))⟩])
 (.ret)))
def r105 : List Res := [.t 4]
def a105 : AFn := ⟨2, c105, r105, .v⟩

/-- bijou/week.slot -/
def c106 : ACode := .seq (.region [⟨some 4, none, .box (.t 0) 5⟩,⟨some 8, none, .mov (.c (.int .i64 0))⟩])
 (.seq (.region [⟨some 9, none, .mov (.t 1)⟩,⟨some 10, none, .addr (.t 4) 1⟩,⟨some 11, none, .load (.t 10) none⟩,⟨some 12, none, .len (.t 11)⟩,⟨some 13, none, .bin .mul (.t 9) (.t 12)⟩,⟨some 14, none, .mov (.t 2)⟩,⟨some 15, none, .bin .add (.t 13) (.t 14)⟩,⟨some 16, none, .addr (.t 4) 2⟩,⟨some 17, none, .load (.t 16) none⟩,⟨some 18, none, .bin .mul (.t 15) (.t 17)⟩,⟨some 19, none, .mov (.t 3)⟩,⟨some 20, none, .bin .add (.t 18) (.t 19)⟩,⟨some 8, none, .mov (.t 20)⟩])
 (.ret))
def r106 : List Res := [.t 8]
def a106 : AFn := ⟨4, c106, r106, .v⟩

/-- math/bits.Len32 -/
def c107 : ACode := .seq (.region [⟨some 2, none, .mov (.c (.int .i64 0))⟩])
 (.seq (.seq (.region [⟨some 3, none, .mov (.t 0)⟩,⟨some 4, none, .bin .geq (.t 3) (.c (.int .u32 65536))⟩])
 (.cond (.t 4) (.seq (.region [⟨some 5, none, .mov (.t 0)⟩,⟨some 6, none, .bin .shr (.t 5) (.c (.int .u64 16))⟩,⟨some 0, none, .mov (.t 6)⟩])
 (.region [⟨some 2, none, .mov (.c (.int .i64 16))⟩]))
 (.skip)))
 (.seq (.seq (.region [⟨some 7, none, .mov (.t 0)⟩,⟨some 8, none, .bin .geq (.t 7) (.c (.int .u32 256))⟩])
 (.cond (.t 8) (.seq (.region [⟨some 9, none, .mov (.t 0)⟩,⟨some 10, none, .bin .shr (.t 9) (.c (.int .u64 8))⟩,⟨some 0, none, .mov (.t 10)⟩])
 (.region [⟨some 11, none, .mov (.t 2)⟩,⟨some 12, none, .bin .add (.t 11) (.c (.int .i64 8))⟩,⟨some 2, none, .mov (.t 12)⟩]))
 (.skip)))
 (.seq (.region [⟨some 13, none, .mov (.t 2)⟩,⟨some 14, none, .mov (.t 0)⟩,⟨some 15, none, .conv .u8 (.t 14)⟩,⟨some 16, none, .sidx (.c (.str ⟨#[0, 1, 2, 2, 3, 3, 3, 3, 4, 4, 4, 4, 4, 4, 4, 4, 5, 5, 5, 5, 5, 5, 5, 5, 5, 5, 5, 5, 5, 5, 5, 5, 6, 6, 6, 6, 6, 6, 6, 6, 6, 6, 6, 6, 6, 6, 6, 6, 6, 6, 6, 6, 6, 6, 6, 6, 6, 6, 6, 6, 6, 6, 6, 6, 7, 7, 7, 7, 7, 7, 7, 7, 7, 7, 7, 7, 7, 7, 7, 7, 7, 7, 7, 7, 7, 7, 7, 7, 7, 7, 7, 7, 7, 7, 7, 7, 7, 7, 7, 7, 7, 7, 7, 7, 7, 7, 7, 7, 7, 7, 7, 7, 7, 7, 7, 7, 7, 7, 7, 7, 7, 7, 7, 7, 7, 7, 7, 7, 8, 8, 8, 8, 8, 8, 8, 8, 8, 8, 8, 8, 8, 8, 8, 8, 8, 8, 8, 8, 8, 8, 8, 8, 8, 8, 8, 8, 8, 8, 8, 8, 8, 8, 8, 8, 8, 8, 8, 8, 8, 8, 8, 8, 8, 8, 8, 8, 8, 8, 8, 8, 8, 8, 8, 8, 8, 8, 8, 8, 8, 8, 8, 8, 8, 8, 8, 8, 8, 8, 8, 8, 8, 8, 8, 8, 8, 8, 8, 8, 8, 8, 8, 8, 8, 8, 8, 8, 8, 8, 8, 8, 8, 8, 8, 8, 8, 8, 8, 8, 8, 8, 8, 8, 8, 8, 8, 8, 8, 8, 8, 8, 8, 8, 8, 8, 8, 8, 8, 8, 8, 8, 8, 8, 8, 8, 8, 8]⟩)) (.t 15)⟩,⟨some 17, none, .conv .i64 (.t 16)⟩,⟨some 18, none, .bin .add (.t 13) (.t 17)⟩,⟨some 2, none, .mov (.t 18)⟩])
 (.ret))))
def r107 : List Res := [.t 2]
def a107 : AFn := ⟨1, c107, r107, .v⟩

/-- math/bits.Len64 -/
def c108 : ACode := .seq (.region [⟨some 2, none, .mov (.c (.int .i64 0))⟩])
 (.seq (.seq (.region [⟨some 3, none, .mov (.t 0)⟩,⟨some 4, none, .bin .geq (.t 3) (.c (.int .u64 4294967296))⟩])
 (.cond (.t 4) (.seq (.region [⟨some 5, none, .mov (.t 0)⟩,⟨some 6, none, .bin .shr (.t 5) (.c (.int .u64 32))⟩,⟨some 0, none, .mov (.t 6)⟩])
 (.region [⟨some 2, none, .mov (.c (.int .i64 32))⟩]))
 (.skip)))
 (.seq (.seq (.region [⟨some 7, none, .mov (.t 0)⟩,⟨some 8, none, .bin .geq (.t 7) (.c (.int .u64 65536))⟩])
 (.cond (.t 8) (.seq (.region [⟨some 9, none, .mov (.t 0)⟩,⟨some 10, none, .bin .shr (.t 9) (.c (.int .u64 16))⟩,⟨some 0, none, .mov (.t 10)⟩])
 (.region [⟨some 11, none, .mov (.t 2)⟩,⟨some 12, none, .bin .add (.t 11) (.c (.int .i64 16))⟩,⟨some 2, none, .mov (.t 12)⟩]))
 (.skip)))
 (.seq (.seq (.region [⟨some 13, none, .mov (.t 0)⟩,⟨some 14, none, .bin .geq (.t 13) (.c (.int .u64 256))⟩])
 (.cond (.t 14) (.seq (.region [⟨some 15, none, .mov (.t 0)⟩,⟨some 16, none, .bin .shr (.t 15) (.c (.int .u64 8))⟩,⟨some 0, none, .mov (.t 16)⟩])
 (.region [⟨some 17, none, .mov (.t 2)⟩,⟨some 18, none, .bin .add (.t 17) (.c (.int .i64 8))⟩,⟨some 2, none, .mov (.t 18)⟩]))
 (.skip)))
 (.seq (.region [⟨some 19, none, .mov (.t 2)⟩,⟨some 20, none, .mov (.t 0)⟩,⟨some 21, none, .conv .u8 (.t 20)⟩,⟨some 22, none, .sidx (.c (.str ⟨#[0, 1, 2, 2, 3, 3, 3, 3, 4, 4, 4, 4, 4, 4, 4, 4, 5, 5, 5, 5, 5, 5, 5, 5, 5, 5, 5, 5, 5, 5, 5, 5, 6, 6, 6, 6, 6, 6, 6, 6, 6, 6, 6, 6, 6, 6, 6, 6, 6, 6, 6, 6, 6, 6, 6, 6, 6, 6, 6, 6, 6, 6, 6, 6, 7, 7, 7, 7, 7, 7, 7, 7, 7, 7, 7, 7, 7, 7, 7, 7, 7, 7, 7, 7, 7, 7, 7, 7, 7, 7, 7, 7, 7, 7, 7, 7, 7, 7, 7, 7, 7, 7, 7, 7, 7, 7, 7, 7, 7, 7, 7, 7, 7, 7, 7, 7, 7, 7, 7, 7, 7, 7, 7, 7, 7, 7, 7, 7, 8, 8, 8, 8, 8, 8, 8, 8, 8, 8, 8, 8, 8, 8, 8, 8, 8, 8, 8, 8, 8, 8, 8, 8, 8, 8, 8, 8, 8, 8, 8, 8, 8, 8, 8, 8, 8, 8, 8, 8, 8, 8, 8, 8, 8, 8, 8, 8, 8, 8, 8, 8, 8, 8, 8, 8, 8, 8, 8, 8, 8, 8, 8, 8, 8, 8, 8, 8, 8, 8, 8, 8, 8, 8, 8, 8, 8, 8, 8, 8, 8, 8, 8, 8, 8, 8, 8, 8, 8, 8, 8, 8, 8, 8, 8, 8, 8, 8, 8, 8, 8, 8, 8, 8, 8, 8, 8, 8, 8, 8, 8, 8, 8, 8, 8, 8, 8, 8, 8, 8, 8, 8, 8, 8, 8, 8, 8, 8]⟩)) (.t 21)⟩,⟨some 23, none, .conv .i64 (.t 22)⟩,⟨some 24, none, .bin .add (.t 19) (.t 23)⟩,⟨some 2, none, .mov (.t 24)⟩])
 (.ret)))))
def r108 : List Res := [.t 2]
def a108 : AFn := ⟨1, c108, r108, .v⟩

/-- bijou/week.dark$1 -/
def c109 : ACode := .region [⟨some 3, none, .mov (.t 0)⟩,⟨some 4, none, .load (.t 1) (some 5)⟩,⟨some 5, none, .call 53 [(.t 4)]⟩,⟨some 6, none, .build [(.int .i64 0), (.int .u64 0)] [(1, 1, (.t 5))]⟩,⟨some 7, none, .load (.t 1) (some 5)⟩,⟨some 8, none, .call 61 [(.t 7)]⟩,⟨some 9, none, .call 80 [(.t 8)]⟩,⟨some 10, none, .build [(.int .i64 0), (.int .u64 0), (.int .u64 0), (.int .u64 0), (.int .u64 0), (.int .u64 0), (.int .u64 0)] [(0, 2, (.t 6)), (6, 1, (.t 9))]⟩,⟨some 11, none, .callv (.t 3) [(.t 10)]⟩]
def r109 : List Res := []
def a109 : AFn := ⟨2, c109, r109, .v⟩

/-- bijou/week.adding$1 -/
def c110 : ACode := .seq (.region [⟨some 4, none, .box (.t 0) 1⟩])
 (.seq (.region [⟨some 7, none, .load (.t 1) none⟩])
 (.block 0 (.range (.t 7) [8] (.region [⟨some 5, none, .new (.agg [(.int .i64 0), (.int .u64 0), (.int .u64 0), (.int .u64 0), (.int .u64 0), (.int .u64 0), (.int .u64 0)]) 7⟩,⟨none, none, .store (.t 5) (.t 8) 7⟩])
 (.block 1 (.seq (.region [⟨some 9, none, .addr (.t 5) 6⟩,⟨some 10, none, .load (.t 9) none⟩,⟨some 11, none, .call 78 [(.t 10)]⟩])
 (.block 2 (.range (.t 11) [12] (.region [⟨some 6, none, .mov (.t 12)⟩])
 (.block 3 (.seq (.region [⟨some 13, none, .load (.t 4) none⟩,⟨some 14, none, .load (.t 5) (some 7)⟩,⟨some 15, none, .load (.t 2) none⟩,⟨some 16, none, .mov (.t 6)⟩,⟨some 17, none, .load (.t 3) none⟩,⟨some 18, none, .mov (.t 6)⟩,⟨some 19, none, .idx (.t 17) (.t 18) 2⟩,⟨some 20, none, .load (.t 19) (some 2)⟩,⟨some 21, none, .call 111 [(.t 14), (.t 15), (.t 16), (.t 20)]⟩,⟨some 22, none, .callv (.t 13) [(.t 21)]⟩,⟨some 23, none, .not (.t 22)⟩])
 (.cond (.t 23) (.ret)
 (.skip)))))))))))
def r110 : List Res := []
def a110 : AFn := ⟨4, c110, r110, .v⟩

/-- (bijou/week.program).showing -/
def c111 : ACode := .seq (.region [⟨some 4, none, .box (.t 0) 7⟩,⟨some 7, none, .box (.t 3) 2⟩,⟨some 8, none, .new (.agg [(.int .i64 0), (.int .u64 0), (.int .u64 0), (.int .u64 0), (.int .u64 0), (.int .u64 0), (.int .u64 0)]) 7⟩])
 (.seq (.region [⟨some 9, none, .addr (.t 4) 0⟩,⟨some 10, none, .addr (.t 9) 0⟩,⟨some 11, none, .load (.t 10) none⟩,⟨some 12, none, .addr (.t 7) 0⟩,⟨some 13, none, .load (.t 12) none⟩,⟨some 14, none, .bin .add (.t 11) (.t 13)⟩,⟨some 15, none, .addr (.t 4) 0⟩,⟨some 16, none, .addr (.t 15) 0⟩,⟨none, none, .store (.t 16) (.t 14) 1⟩])
 (.seq (.region [⟨some 17, none, .addr (.t 4) 0⟩,⟨some 18, none, .addr (.t 17) 1⟩,⟨some 19, none, .load (.t 18) none⟩,⟨some 20, none, .addr (.t 7) 1⟩,⟨some 21, none, .load (.t 20) none⟩,⟨some 22, none, .bin .and (.t 19) (.t 21)⟩,⟨some 23, none, .addr (.t 4) 0⟩,⟨some 24, none, .addr (.t 23) 1⟩,⟨none, none, .store (.t 24) (.t 22) 1⟩])
 (.seq (.region [⟨some 25, none, .mov (.t 1)⟩,⟨some 26, none, .mov (.t 2)⟩,⟨some 27, none, .addr (.t 4) 2⟩,⟨some 28, none, .aidx (.t 27) (.t 25) 4 1⟩,⟨none, none, .store (.t 28) (.t 26) 1⟩])
 (.seq (.region [⟨some 29, none, .addr (.t 4) 6⟩,⟨some 30, none, .load (.t 29) none⟩,⟨some 31, none, .mov (.t 2)⟩,⟨some 32, none, .bin .andNot (.t 30) (.t 31)⟩,⟨some 33, none, .addr (.t 4) 6⟩,⟨none, none, .store (.t 33) (.t 32) 1⟩])
 (.seq (.region [⟨some 34, none, .load (.t 4) (some 7)⟩,⟨none, none, .store (.t 8) (.t 34) 7⟩])
 (.ret))))))
def r111 : List Res := [.cell 8 (some 7)]
def a111 : AFn := ⟨4, c111, r111, .v⟩

/-- bijou/week.kept -/
def c112 : ACode := .seq (.region [⟨some 3, none, .box (.t 0) 5⟩,⟨some 6, none, .mov (.c (.int .u64 0))⟩])
 (.seq (.region [⟨some 10, none, .load (.t 3) (some 5)⟩,⟨some 11, none, .call 53 [(.t 10)]⟩,⟨some 7, none, .mov (.t 11)⟩])
 (.seq (.seq (.region [⟨some 12, none, .addr (.t 3) 4⟩,⟨some 13, none, .load (.t 12) none⟩,⟨some 14, none, .len (.t 13)⟩,⟨some 15, none, .mov (.c (.int .i64 0))⟩])
 (.block 0 (.loop (.seq (.region [⟨some 16, none, .bin .lss (.t 15) (.t 14)⟩])
 (.seq (.cond (.t 16) (.skip)
 (.exit 0))
 (.seq (.block 1 (.seq (.region [⟨some 17, none, .mov (.t 15)⟩,⟨some 18, none, .idx (.t 13) (.t 15) 8⟩,⟨some 19, none, .load (.t 18) (some 8)⟩,⟨some 9, none, .new (.agg [(.int .i64 0), (.int .i64 0), (.int .i64 0), (.int .i64 0), (.int .i64 0), (.int .i64 0), (.int .i64 0), (.int .i64 0)]) 8⟩,⟨some 8, none, .mov (.t 17)⟩,⟨none, none, .store (.t 9) (.t 19) 8⟩])
 (.seq (.region [⟨some 20, none, .addr (.t 9) 1⟩,⟨some 21, none, .load (.t 20) none⟩,⟨some 22, none, .mov (.t 1)⟩,⟨some 23, none, .bin .eql (.t 21) (.t 22)⟩,⟨some 24, none, .mov (.t 23)⟩,⟨some 25, some (24, true), .load (.t 3) (some 5)⟩,⟨some 26, some (24, true), .load (.t 9) (some 8)⟩,⟨some 27, some (24, true), .mov (.t 2)⟩,⟨some 28, some (24, true), .call 43 [(.t 25), (.t 26), (.t 27)]⟩,⟨some 29, some (24, true), .not (.t 28)⟩,⟨some 30, none, .pick (.t 24) (.t 29) (.c (.bool false))⟩])
 (.cond (.t 30) (.region [⟨some 31, none, .mov (.t 7)⟩,⟨some 32, none, .mov (.t 8)⟩,⟨some 33, none, .call 59 [(.t 31), (.t 32)]⟩,⟨some 7, none, .mov (.t 33)⟩])
 (.skip)))))
 (.region [⟨some 34, none, .bin .add (.t 15) (.c (.int .i64 1))⟩,⟨some 15, none, .mov (.t 34)⟩])))))))
 (.seq (.region [⟨some 35, none, .mov (.t 7)⟩,⟨some 6, none, .mov (.t 35)⟩])
 (.ret))))
def r112 : List Res := [.t 6]
def a112 : AFn := ⟨3, c112, r112, .v⟩

/-- cmp.Compare[int] -/
def c113 : ACode := .seq (.region [⟨some 4, none, .mov (.c (.int .i64 0))⟩])
 (.seq (.region [⟨some 7, none, .mov (.t 0)⟩,⟨some 8, none, .call 116 [(.t 7)]⟩,⟨some 5, none, .mov (.t 8)⟩])
 (.seq (.region [⟨some 9, none, .mov (.t 1)⟩,⟨some 10, none, .call 116 [(.t 9)]⟩,⟨some 6, none, .mov (.t 10)⟩])
 (.seq (.seq (.region [⟨some 11, none, .mov (.t 5)⟩])
 (.cond (.t 11) (.seq (.seq (.region [⟨some 12, none, .mov (.t 6)⟩])
 (.cond (.t 12) (.seq (.region [⟨some 4, none, .mov (.c (.int .i64 0))⟩])
 (.ret))
 (.skip)))
 (.seq (.region [⟨some 4, none, .mov (.c (.int .i64 (-1)))⟩])
 (.ret)))
 (.skip)))
 (.seq (.seq (.region [⟨some 13, none, .mov (.t 6)⟩])
 (.cond (.t 13) (.seq (.region [⟨some 4, none, .mov (.c (.int .i64 1))⟩])
 (.ret))
 (.skip)))
 (.seq (.seq (.region [⟨some 14, none, .mov (.t 0)⟩,⟨some 15, none, .mov (.t 1)⟩,⟨some 16, none, .bin .lss (.t 14) (.t 15)⟩])
 (.cond (.t 16) (.seq (.region [⟨some 4, none, .mov (.c (.int .i64 (-1)))⟩])
 (.ret))
 (.skip)))
 (.seq (.seq (.region [⟨some 17, none, .mov (.t 0)⟩,⟨some 18, none, .mov (.t 1)⟩,⟨some 19, none, .bin .gtr (.t 17) (.t 18)⟩])
 (.cond (.t 19) (.seq (.region [⟨some 4, none, .mov (.c (.int .i64 1))⟩])
 (.ret))
 (.skip)))
 (.seq (.region [⟨some 4, none, .mov (.c (.int .i64 0))⟩])
 (.ret))))))))
def r113 : List Res := [.t 4]
def a113 : AFn := ⟨2, c113, r113, .v⟩

/-- math/bits.Mul32 -/
def c114 : ACode := .seq (.region [⟨some 4, none, .mov (.c (.int .u32 0))⟩,⟨some 5, none, .mov (.c (.int .u32 0))⟩])
 (.seq (.region [⟨some 7, none, .mov (.t 0)⟩,⟨some 8, none, .conv .u64 (.t 7)⟩,⟨some 9, none, .mov (.t 1)⟩,⟨some 10, none, .conv .u64 (.t 9)⟩,⟨some 11, none, .bin .mul (.t 8) (.t 10)⟩,⟨some 6, none, .mov (.t 11)⟩])
 (.seq (.region [⟨some 12, none, .mov (.t 6)⟩,⟨some 13, none, .bin .shr (.t 12) (.c (.int .u64 32))⟩,⟨some 14, none, .conv .u32 (.t 13)⟩,⟨some 15, none, .mov (.t 6)⟩,⟨some 16, none, .conv .u32 (.t 15)⟩,⟨some 4, none, .mov (.t 14)⟩,⟨some 5, none, .mov (.t 16)⟩])
 (.ret)))
def r114 : List Res := [.t 4, .t 5]
def a114 : AFn := ⟨2, c114, r114, .v⟩

/-- math/bits.Mul64 -/
def c115 : ACode := .seq (.region [⟨some 4, none, .mov (.c (.int .u64 0))⟩,⟨some 5, none, .mov (.c (.int .u64 0))⟩])
 (.seq (.region [⟨some 14, none, .mov (.t 0)⟩,⟨some 15, none, .bin .and (.t 14) (.c (.int .u64 4294967295))⟩,⟨some 6, none, .mov (.t 15)⟩])
 (.seq (.region [⟨some 16, none, .mov (.t 0)⟩,⟨some 17, none, .bin .shr (.t 16) (.c (.int .u64 32))⟩,⟨some 7, none, .mov (.t 17)⟩])
 (.seq (.region [⟨some 18, none, .mov (.t 1)⟩,⟨some 19, none, .bin .and (.t 18) (.c (.int .u64 4294967295))⟩,⟨some 8, none, .mov (.t 19)⟩])
 (.seq (.region [⟨some 20, none, .mov (.t 1)⟩,⟨some 21, none, .bin .shr (.t 20) (.c (.int .u64 32))⟩,⟨some 9, none, .mov (.t 21)⟩])
 (.seq (.region [⟨some 22, none, .mov (.t 6)⟩,⟨some 23, none, .mov (.t 8)⟩,⟨some 24, none, .bin .mul (.t 22) (.t 23)⟩,⟨some 10, none, .mov (.t 24)⟩])
 (.seq (.region [⟨some 25, none, .mov (.t 7)⟩,⟨some 26, none, .mov (.t 8)⟩,⟨some 27, none, .bin .mul (.t 25) (.t 26)⟩,⟨some 28, none, .mov (.t 10)⟩,⟨some 29, none, .bin .shr (.t 28) (.c (.int .u64 32))⟩,⟨some 30, none, .bin .add (.t 27) (.t 29)⟩,⟨some 11, none, .mov (.t 30)⟩])
 (.seq (.region [⟨some 31, none, .mov (.t 11)⟩,⟨some 32, none, .bin .and (.t 31) (.c (.int .u64 4294967295))⟩,⟨some 12, none, .mov (.t 32)⟩])
 (.seq (.region [⟨some 33, none, .mov (.t 11)⟩,⟨some 34, none, .bin .shr (.t 33) (.c (.int .u64 32))⟩,⟨some 13, none, .mov (.t 34)⟩])
 (.seq (.region [⟨some 35, none, .mov (.t 12)⟩,⟨some 36, none, .mov (.t 6)⟩,⟨some 37, none, .mov (.t 9)⟩,⟨some 38, none, .bin .mul (.t 36) (.t 37)⟩,⟨some 39, none, .bin .add (.t 35) (.t 38)⟩,⟨some 12, none, .mov (.t 39)⟩])
 (.seq (.region [⟨some 40, none, .mov (.t 7)⟩,⟨some 41, none, .mov (.t 9)⟩,⟨some 42, none, .bin .mul (.t 40) (.t 41)⟩,⟨some 43, none, .mov (.t 13)⟩,⟨some 44, none, .bin .add (.t 42) (.t 43)⟩,⟨some 45, none, .mov (.t 12)⟩,⟨some 46, none, .bin .shr (.t 45) (.c (.int .u64 32))⟩,⟨some 47, none, .bin .add (.t 44) (.t 46)⟩,⟨some 4, none, .mov (.t 47)⟩])
 (.seq (.region [⟨some 48, none, .mov (.t 0)⟩,⟨some 49, none, .mov (.t 1)⟩,⟨some 50, none, .bin .mul (.t 48) (.t 49)⟩,⟨some 5, none, .mov (.t 50)⟩])
 (.ret))))))))))))
def r115 : List Res := [.t 4, .t 5]
def a115 : AFn := ⟨2, c115, r115, .v⟩

/-- cmp.isNaN[int] -/
def c116 : ACode := .seq (.region [⟨some 2, none, .mov (.c (.bool false))⟩])
 (.seq (.region [⟨some 3, none, .mov (.t 0)⟩,⟨some 4, none, .mov (.t 0)⟩,⟨some 5, none, .bin .neq (.t 3) (.t 4)⟩,⟨some 2, none, .mov (.t 5)⟩])
 (.ret))
def r116 : List Res := [.t 2]
def a116 : AFn := ⟨1, c116, r116, .v⟩


def ft : FuncId → Option AFn
  | 3 => some a3
  | 4 => some a4
  | 5 => some a5
  | 6 => some a6
  | 7 => some a7
  | 8 => some a8
  | 9 => some a9
  | 10 => some a10
  | 11 => some a11
  | 12 => some a12
  | 13 => some a13
  | 14 => some a14
  | 15 => some a15
  | 16 => some a16
  | 17 => some a17
  | 18 => some a18
  | 19 => some a19
  | 20 => some a20
  | 21 => some a21
  | 22 => some a22
  | 23 => some a23
  | 24 => some a24
  | 25 => some a25
  | 26 => some a26
  | 27 => some a27
  | 28 => some a28
  | 29 => some a29
  | 30 => some a30
  | 31 => some a31
  | 32 => some a32
  | 33 => some a33
  | 34 => some a34
  | 35 => some a35
  | 36 => some a36
  | 37 => some a37
  | 38 => some a38
  | 39 => some a39
  | 40 => some a40
  | 41 => some a41
  | 42 => some a42
  | 43 => some a43
  | 44 => some a44
  | 45 => some a45
  | 46 => some a46
  | 47 => some a47
  | 48 => some a48
  | 49 => some a49
  | 50 => some a50
  | 51 => some a51
  | 52 => some a52
  | 53 => some a53
  | 54 => some a54
  | 55 => some a55
  | 56 => some a56
  | 57 => some a57
  | 58 => some a58
  | 59 => some a59
  | 60 => some a60
  | 61 => some a61
  | 62 => some a62
  | 63 => some a63
  | 64 => some a64
  | 65 => some a65
  | 66 => some a66
  | 67 => some a67
  | 68 => some a68
  | 69 => some a69
  | 70 => some a70
  | 71 => some a71
  | 72 => some a72
  | 73 => some a73
  | 74 => some a74
  | 75 => some a75
  | 76 => some a76
  | 77 => some a77
  | 78 => some a78
  | 79 => some a79
  | 80 => some a80
  | 81 => some a81
  | 82 => some a82
  | 83 => some a83
  | 84 => some a84
  | 85 => some a85
  | 86 => some a86
  | 87 => some a87
  | 88 => some a88
  | 89 => some a89
  | 90 => some a90
  | 91 => some a91
  | 92 => some a92
  | 93 => some a93
  | 94 => some a94
  | 95 => some a95
  | 96 => some a96
  | 97 => some a97
  | 98 => some a98
  | 99 => some a99
  | 100 => some a100
  | 101 => some a101
  | 102 => some a102
  | 103 => some a103
  | 104 => some a104
  | 105 => some a105
  | 106 => some a106
  | 107 => some a107
  | 108 => some a108
  | 109 => some a109
  | 110 => some a110
  | 111 => some a111
  | 112 => some a112
  | 113 => some a113
  | 114 => some a114
  | 115 => some a115
  | 116 => some a116
  | _ => none
theorem ft3 : ft 3 = some a3 := rfl
theorem ft4 : ft 4 = some a4 := rfl
theorem ft5 : ft 5 = some a5 := rfl
theorem ft6 : ft 6 = some a6 := rfl
theorem ft7 : ft 7 = some a7 := rfl
theorem ft8 : ft 8 = some a8 := rfl
theorem ft9 : ft 9 = some a9 := rfl
theorem ft10 : ft 10 = some a10 := rfl
theorem ft11 : ft 11 = some a11 := rfl
theorem ft12 : ft 12 = some a12 := rfl
theorem ft13 : ft 13 = some a13 := rfl
theorem ft14 : ft 14 = some a14 := rfl
theorem ft15 : ft 15 = some a15 := rfl
theorem ft16 : ft 16 = some a16 := rfl
theorem ft17 : ft 17 = some a17 := rfl
theorem ft18 : ft 18 = some a18 := rfl
theorem ft19 : ft 19 = some a19 := rfl
theorem ft20 : ft 20 = some a20 := rfl
theorem ft21 : ft 21 = some a21 := rfl
theorem ft22 : ft 22 = some a22 := rfl
theorem ft23 : ft 23 = some a23 := rfl
theorem ft24 : ft 24 = some a24 := rfl
theorem ft25 : ft 25 = some a25 := rfl
theorem ft26 : ft 26 = some a26 := rfl
theorem ft27 : ft 27 = some a27 := rfl
theorem ft28 : ft 28 = some a28 := rfl
theorem ft29 : ft 29 = some a29 := rfl
theorem ft30 : ft 30 = some a30 := rfl
theorem ft31 : ft 31 = some a31 := rfl
theorem ft32 : ft 32 = some a32 := rfl
theorem ft33 : ft 33 = some a33 := rfl
theorem ft34 : ft 34 = some a34 := rfl
theorem ft35 : ft 35 = some a35 := rfl
theorem ft36 : ft 36 = some a36 := rfl
theorem ft37 : ft 37 = some a37 := rfl
theorem ft38 : ft 38 = some a38 := rfl
theorem ft39 : ft 39 = some a39 := rfl
theorem ft40 : ft 40 = some a40 := rfl
theorem ft41 : ft 41 = some a41 := rfl
theorem ft42 : ft 42 = some a42 := rfl
theorem ft43 : ft 43 = some a43 := rfl
theorem ft44 : ft 44 = some a44 := rfl
theorem ft45 : ft 45 = some a45 := rfl
theorem ft46 : ft 46 = some a46 := rfl
theorem ft47 : ft 47 = some a47 := rfl
theorem ft48 : ft 48 = some a48 := rfl
theorem ft49 : ft 49 = some a49 := rfl
theorem ft50 : ft 50 = some a50 := rfl
theorem ft51 : ft 51 = some a51 := rfl
theorem ft52 : ft 52 = some a52 := rfl
theorem ft53 : ft 53 = some a53 := rfl
theorem ft54 : ft 54 = some a54 := rfl
theorem ft55 : ft 55 = some a55 := rfl
theorem ft56 : ft 56 = some a56 := rfl
theorem ft57 : ft 57 = some a57 := rfl
theorem ft58 : ft 58 = some a58 := rfl
theorem ft59 : ft 59 = some a59 := rfl
theorem ft60 : ft 60 = some a60 := rfl
theorem ft61 : ft 61 = some a61 := rfl
theorem ft62 : ft 62 = some a62 := rfl
theorem ft63 : ft 63 = some a63 := rfl
theorem ft64 : ft 64 = some a64 := rfl
theorem ft65 : ft 65 = some a65 := rfl
theorem ft66 : ft 66 = some a66 := rfl
theorem ft67 : ft 67 = some a67 := rfl
theorem ft68 : ft 68 = some a68 := rfl
theorem ft69 : ft 69 = some a69 := rfl
theorem ft70 : ft 70 = some a70 := rfl
theorem ft71 : ft 71 = some a71 := rfl
theorem ft72 : ft 72 = some a72 := rfl
theorem ft73 : ft 73 = some a73 := rfl
theorem ft74 : ft 74 = some a74 := rfl
theorem ft75 : ft 75 = some a75 := rfl
theorem ft76 : ft 76 = some a76 := rfl
theorem ft77 : ft 77 = some a77 := rfl
theorem ft78 : ft 78 = some a78 := rfl
theorem ft79 : ft 79 = some a79 := rfl
theorem ft80 : ft 80 = some a80 := rfl
theorem ft81 : ft 81 = some a81 := rfl
theorem ft82 : ft 82 = some a82 := rfl
theorem ft83 : ft 83 = some a83 := rfl
theorem ft84 : ft 84 = some a84 := rfl
theorem ft85 : ft 85 = some a85 := rfl
theorem ft86 : ft 86 = some a86 := rfl
theorem ft87 : ft 87 = some a87 := rfl
theorem ft88 : ft 88 = some a88 := rfl
theorem ft89 : ft 89 = some a89 := rfl
theorem ft90 : ft 90 = some a90 := rfl
theorem ft91 : ft 91 = some a91 := rfl
theorem ft92 : ft 92 = some a92 := rfl
theorem ft93 : ft 93 = some a93 := rfl
theorem ft94 : ft 94 = some a94 := rfl
theorem ft95 : ft 95 = some a95 := rfl
theorem ft96 : ft 96 = some a96 := rfl
theorem ft97 : ft 97 = some a97 := rfl
theorem ft98 : ft 98 = some a98 := rfl
theorem ft99 : ft 99 = some a99 := rfl
theorem ft100 : ft 100 = some a100 := rfl
theorem ft101 : ft 101 = some a101 := rfl
theorem ft102 : ft 102 = some a102 := rfl
theorem ft103 : ft 103 = some a103 := rfl
theorem ft104 : ft 104 = some a104 := rfl
theorem ft105 : ft 105 = some a105 := rfl
theorem ft106 : ft 106 = some a106 := rfl
theorem ft107 : ft 107 = some a107 := rfl
theorem ft108 : ft 108 = some a108 := rfl
theorem ft109 : ft 109 = some a109 := rfl
theorem ft110 : ft 110 = some a110 := rfl
theorem ft111 : ft 111 = some a111 := rfl
theorem ft112 : ft 112 = some a112 := rfl
theorem ft113 : ft 113 = some a113 := rfl
theorem ft114 : ft 114 = some a114 := rfl
theorem ft115 : ft 115 = some a115 := rfl
theorem ft116 : ft 116 = some a116 := rfl
end Go.Ab.T
end

section
namespace Go.Ab.T
theorem WB3 (s : St) (as : List AV) (K : AV → St → Prop) : WB ft 3 as s K = WV ft 3 (as.map (snap s.mem dep)) fun v => (as.all (fun a => !hot dep a) || plain dep v) = true ∧ K v s := WB_v ft3 rfl as s K
theorem WB4 (s : St) (as : List AV) (K : AV → St → Prop) : WB ft 4 as s K = WV ft 4 (as.map (snap s.mem dep)) fun v => (as.all (fun a => !hot dep a) || plain dep v) = true ∧ K v s := WB_v ft4 rfl as s K
theorem WB5 (s : St) (as : List AV) (K : AV → St → Prop) : WB ft 5 as s K = WV ft 5 (as.map (snap s.mem dep)) fun v => (as.all (fun a => !hot dep a) || plain dep v) = true ∧ K v s := WB_v ft5 rfl as s K
theorem WB6 (s : St) (as : List AV) (K : AV → St → Prop) : WB ft 6 as s K = WV ft 6 (as.map (snap s.mem dep)) fun v => (as.all (fun a => !hot dep a) || plain dep v) = true ∧ K v s := WB_v ft6 rfl as s K
theorem WB7 (s : St) (as : List AV) (K : AV → St → Prop) : WB ft 7 as s K = WV ft 7 (as.map (snap s.mem dep)) fun v => (as.all (fun a => !hot dep a) || plain dep v) = true ∧ K v s := WB_v ft7 rfl as s K
theorem WB8 (s : St) (as : List AV) (K : AV → St → Prop) : WB ft 8 as s K = WV ft 8 (as.map (snap s.mem dep)) fun v => (as.all (fun a => !hot dep a) || plain dep v) = true ∧ K v s := WB_v ft8 rfl as s K
theorem WB9 (s : St) (as : List AV) (K : AV → St → Prop) : WB ft 9 as s K = WV ft 9 (as.map (snap s.mem dep)) fun v => (as.all (fun a => !hot dep a) || plain dep v) = true ∧ K v s := WB_v ft9 rfl as s K
theorem WB10 (s : St) (as : List AV) (K : AV → St → Prop) : WB ft 10 as s K = WV ft 10 (as.map (snap s.mem dep)) fun v => (as.all (fun a => !hot dep a) || plain dep v) = true ∧ K v s := WB_v ft10 rfl as s K
theorem WB11 (s : St) (as : List AV) (K : AV → St → Prop) : WB ft 11 as s K = WV ft 11 (as.map (snap s.mem dep)) fun v => (as.all (fun a => !hot dep a) || plain dep v) = true ∧ K v s := WB_v ft11 rfl as s K
theorem WB12 (s : St) (as : List AV) (K : AV → St → Prop) : WB ft 12 as s K = WV ft 12 (as.map (snap s.mem dep)) fun v => (as.all (fun a => !hot dep a) || plain dep v) = true ∧ K v s := WB_v ft12 rfl as s K
theorem WB13 (s : St) (as : List AV) (K : AV → St → Prop) : WB ft 13 as s K = WR ft (.f 13) (as.map (snap s.mem dep)) .nil fun v m => (as.all (fun a => !hot dep a) || (ownly dep v && m.blks.all Blk.ownly)) = true ∧
      K (shift s.mem.blks.length s.mem.toks.length dep v) (s.setMem (joinMem s.mem m dep)) := WB_o ft13 rfl as s K
theorem WB14 (s : St) (as : List AV) (K : AV → St → Prop) : WB ft 14 as s K = WV ft 14 (as.map (snap s.mem dep)) fun v => (as.all (fun a => !hot dep a) || plain dep v) = true ∧ K v s := WB_v ft14 rfl as s K
theorem WB15 (s : St) (as : List AV) (K : AV → St → Prop) : WB ft 15 as s K = WV ft 15 (as.map (snap s.mem dep)) fun v => (as.all (fun a => !hot dep a) || plain dep v) = true ∧ K v s := WB_v ft15 rfl as s K
theorem WB16 (s : St) (as : List AV) (K : AV → St → Prop) : WB ft 16 as s K = WV ft 16 (as.map (snap s.mem dep)) fun v => (as.all (fun a => !hot dep a) || plain dep v) = true ∧ K v s := WB_v ft16 rfl as s K
theorem WB17 (s : St) (as : List AV) (K : AV → St → Prop) : WB ft 17 as s K = WV ft 17 (as.map (snap s.mem dep)) fun v => (as.all (fun a => !hot dep a) || plain dep v) = true ∧ K v s := WB_v ft17 rfl as s K
theorem WB18 (s : St) (as : List AV) (K : AV → St → Prop) : WB ft 18 as s K = WV ft 18 (as.map (snap s.mem dep)) fun v => (as.all (fun a => !hot dep a) || plain dep v) = true ∧ K v s := WB_v ft18 rfl as s K
theorem WB19 (s : St) (as : List AV) (K : AV → St → Prop) : WB ft 19 as s K = WV ft 19 (as.map (snap s.mem dep)) fun v => (as.all (fun a => !hot dep a) || plain dep v) = true ∧ K v s := WB_v ft19 rfl as s K
theorem WB20 (s : St) (as : List AV) (K : AV → St → Prop) : WB ft 20 as s K = WV ft 20 (as.map (snap s.mem dep)) fun v => (as.all (fun a => !hot dep a) || plain dep v) = true ∧ K v s := WB_v ft20 rfl as s K
theorem WB21 (s : St) (as : List AV) (K : AV → St → Prop) : WB ft 21 as s K = WV ft 21 (as.map (snap s.mem dep)) fun v => (as.all (fun a => !hot dep a) || plain dep v) = true ∧ K v s := WB_v ft21 rfl as s K
theorem WB22 (s : St) (as : List AV) (K : AV → St → Prop) : WB ft 22 as s K = WV ft 22 (as.map (snap s.mem dep)) fun v => (as.all (fun a => !hot dep a) || plain dep v) = true ∧ K v s := WB_v ft22 rfl as s K
theorem WB23 (s : St) (as : List AV) (K : AV → St → Prop) : WB ft 23 as s K = WV ft 23 (as.map (snap s.mem dep)) fun v => (as.all (fun a => !hot dep a) || plain dep v) = true ∧ K v s := WB_v ft23 rfl as s K
theorem WB24 (s : St) (as : List AV) (K : AV → St → Prop) : WB ft 24 as s K = WV ft 24 (as.map (snap s.mem dep)) fun v => (as.all (fun a => !hot dep a) || plain dep v) = true ∧ K v s := WB_v ft24 rfl as s K
theorem WB25 (s : St) (as : List AV) (K : AV → St → Prop) : WB ft 25 as s K = WV ft 25 (as.map (snap s.mem dep)) fun v => (as.all (fun a => !hot dep a) || plain dep v) = true ∧ K v s := WB_v ft25 rfl as s K
theorem WB26 (s : St) (as : List AV) (K : AV → St → Prop) : WB ft 26 as s K = WV ft 26 (as.map (snap s.mem dep)) fun v => (as.all (fun a => !hot dep a) || plain dep v) = true ∧ K v s := WB_v ft26 rfl as s K
theorem WB27 (s : St) (as : List AV) (K : AV → St → Prop) : WB ft 27 as s K = WV ft 27 (as.map (snap s.mem dep)) fun v => (as.all (fun a => !hot dep a) || plain dep v) = true ∧ K v s := WB_v ft27 rfl as s K
theorem WB28 (s : St) (as : List AV) (K : AV → St → Prop) : WB ft 28 as s K = WV ft 28 (as.map (snap s.mem dep)) fun v => (as.all (fun a => !hot dep a) || plain dep v) = true ∧ K v s := WB_v ft28 rfl as s K
theorem WB29 (s : St) (as : List AV) (K : AV → St → Prop) : WB ft 29 as s K = WV ft 29 (as.map (snap s.mem dep)) fun v => (as.all (fun a => !hot dep a) || plain dep v) = true ∧ K v s := WB_v ft29 rfl as s K
theorem WB30 (s : St) (as : List AV) (K : AV → St → Prop) : WB ft 30 as s K = WV ft 30 (as.map (snap s.mem dep)) fun v => (as.all (fun a => !hot dep a) || plain dep v) = true ∧ K v s := WB_v ft30 rfl as s K
theorem WB31 (s : St) (as : List AV) (K : AV → St → Prop) : WB ft 31 as s K = WR ft (.f 31) (as.map (snap s.mem dep)) .nil fun v m => (as.all (fun a => !hot dep a) || (ownly dep v && m.blks.all Blk.ownly)) = true ∧
      K (shift s.mem.blks.length s.mem.toks.length dep v) (s.setMem (joinMem s.mem m dep)) := WB_o ft31 rfl as s K
theorem WB32 (s : St) (as : List AV) (K : AV → St → Prop) : WB ft 32 as s K = WV ft 32 (as.map (snap s.mem dep)) fun v => (as.all (fun a => !hot dep a) || plain dep v) = true ∧ K v s := WB_v ft32 rfl as s K
theorem WB33 (s : St) (as : List AV) (K : AV → St → Prop) : WB ft 33 as s K = WV ft 33 (as.map (snap s.mem dep)) fun v => (as.all (fun a => !hot dep a) || plain dep v) = true ∧ K v s := WB_v ft33 rfl as s K
theorem WB34 (s : St) (as : List AV) (K : AV → St → Prop) : WB ft 34 as s K = WV ft 34 (as.map (snap s.mem dep)) fun v => (as.all (fun a => !hot dep a) || plain dep v) = true ∧ K v s := WB_v ft34 rfl as s K
theorem WB35 (s : St) (as : List AV) (K : AV → St → Prop) : WB ft 35 as s K = WV ft 35 (as.map (snap s.mem dep)) fun v => (as.all (fun a => !hot dep a) || plain dep v) = true ∧ K v s := WB_v ft35 rfl as s K
theorem WB36 (s : St) (as : List AV) (K : AV → St → Prop) : WB ft 36 as s K = WV ft 36 (as.map (snap s.mem dep)) fun v => (as.all (fun a => !hot dep a) || plain dep v) = true ∧ K v s := WB_v ft36 rfl as s K
theorem WB37 (s : St) (as : List AV) (K : AV → St → Prop) : WB ft 37 as s K = WV ft 37 (as.map (snap s.mem dep)) fun v => (as.all (fun a => !hot dep a) || plain dep v) = true ∧ K v s := WB_v ft37 rfl as s K
theorem WB38 (s : St) (as : List AV) (K : AV → St → Prop) : WB ft 38 as s K = WV ft 38 (as.map (snap s.mem dep)) fun v => (as.all (fun a => !hot dep a) || plain dep v) = true ∧ K v s := WB_v ft38 rfl as s K
theorem WB39 (s : St) (as : List AV) (K : AV → St → Prop) : WB ft 39 as s K = WV ft 39 (as.map (snap s.mem dep)) fun v => (as.all (fun a => !hot dep a) || plain dep v) = true ∧ K v s := WB_v ft39 rfl as s K
theorem WB40 (s : St) (as : List AV) (K : AV → St → Prop) : WB ft 40 as s K = WV ft 40 (as.map (snap s.mem dep)) fun v => (as.all (fun a => !hot dep a) || plain dep v) = true ∧ K v s := WB_v ft40 rfl as s K
theorem WB41 (s : St) (as : List AV) (K : AV → St → Prop) : WB ft 41 as s K = WV ft 41 (as.map (snap s.mem dep)) fun v => (as.all (fun a => !hot dep a) || plain dep v) = true ∧ K v s := WB_v ft41 rfl as s K
theorem WB42 (s : St) (as : List AV) (K : AV → St → Prop) : WB ft 42 as s K = WV ft 42 (as.map (snap s.mem dep)) fun v => (as.all (fun a => !hot dep a) || plain dep v) = true ∧ K v s := WB_v ft42 rfl as s K
theorem WB43 (s : St) (as : List AV) (K : AV → St → Prop) : WB ft 43 as s K = WV ft 43 (as.map (snap s.mem dep)) fun v => (as.all (fun a => !hot dep a) || plain dep v) = true ∧ K v s := WB_v ft43 rfl as s K
theorem WB44 (s : St) (as : List AV) (K : AV → St → Prop) : WB ft 44 as s K = WV ft 44 (as.map (snap s.mem dep)) fun v => (as.all (fun a => !hot dep a) || plain dep v) = true ∧ K v s := WB_v ft44 rfl as s K
theorem WB45 (s : St) (as : List AV) (K : AV → St → Prop) : WB ft 45 as s K = WV ft 45 (as.map (snap s.mem dep)) fun v => (as.all (fun a => !hot dep a) || plain dep v) = true ∧ K v s := WB_v ft45 rfl as s K
theorem WB46 (s : St) (as : List AV) (K : AV → St → Prop) : WB ft 46 as s K = WV ft 46 (as.map (snap s.mem dep)) fun v => (as.all (fun a => !hot dep a) || plain dep v) = true ∧ K v s := WB_v ft46 rfl as s K
theorem WB47 (s : St) (as : List AV) (K : AV → St → Prop) : WB ft 47 as s K = WV ft 47 (as.map (snap s.mem dep)) fun v => (as.all (fun a => !hot dep a) || plain dep v) = true ∧ K v s := WB_v ft47 rfl as s K
theorem WB48 (s : St) (as : List AV) (K : AV → St → Prop) : WB ft 48 as s K = WV ft 48 (as.map (snap s.mem dep)) fun v => (as.all (fun a => !hot dep a) || plain dep v) = true ∧ K v s := WB_v ft48 rfl as s K
theorem WB49 (s : St) (as : List AV) (K : AV → St → Prop) : WB ft 49 as s K = WV ft 49 (as.map (snap s.mem dep)) fun v => (as.all (fun a => !hot dep a) || plain dep v) = true ∧ K v s := WB_v ft49 rfl as s K
theorem WB50 (s : St) (as : List AV) (K : AV → St → Prop) : WB ft 50 as s K = WV ft 50 (as.map (snap s.mem dep)) fun v => (as.all (fun a => !hot dep a) || plain dep v) = true ∧ K v s := WB_v ft50 rfl as s K
theorem WB51 (s : St) (as : List AV) (K : AV → St → Prop) : WB ft 51 as s K = WR ft (.f 51) as s.mem fun v m => K v (s.setMem m) := WB_r ft51 rfl as s K
theorem WB52 (s : St) (as : List AV) (K : AV → St → Prop) : WB ft 52 as s K = WR ft (.f 52) as s.mem fun v m => K v (s.setMem m) := WB_r ft52 rfl as s K
theorem WB53 (s : St) (as : List AV) (K : AV → St → Prop) : WB ft 53 as s K = WV ft 53 (as.map (snap s.mem dep)) fun v => (as.all (fun a => !hot dep a) || plain dep v) = true ∧ K v s := WB_v ft53 rfl as s K
theorem WB54 (s : St) (as : List AV) (K : AV → St → Prop) : WB ft 54 as s K = WV ft 54 (as.map (snap s.mem dep)) fun v => (as.all (fun a => !hot dep a) || plain dep v) = true ∧ K v s := WB_v ft54 rfl as s K
theorem WB55 (s : St) (as : List AV) (K : AV → St → Prop) : WB ft 55 as s K = WV ft 55 (as.map (snap s.mem dep)) fun v => (as.all (fun a => !hot dep a) || plain dep v) = true ∧ K v s := WB_v ft55 rfl as s K
theorem WB56 (s : St) (as : List AV) (K : AV → St → Prop) : WB ft 56 as s K = WV ft 56 (as.map (snap s.mem dep)) fun v => (as.all (fun a => !hot dep a) || plain dep v) = true ∧ K v s := WB_v ft56 rfl as s K
theorem WB57 (s : St) (as : List AV) (K : AV → St → Prop) : WB ft 57 as s K = WV ft 57 (as.map (snap s.mem dep)) fun v => (as.all (fun a => !hot dep a) || plain dep v) = true ∧ K v s := WB_v ft57 rfl as s K
theorem WB58 (s : St) (as : List AV) (K : AV → St → Prop) : WB ft 58 as s K = WR ft (.f 58) as s.mem fun v m => K v (s.setMem m) := WB_r ft58 rfl as s K
theorem WB59 (s : St) (as : List AV) (K : AV → St → Prop) : WB ft 59 as s K = WV ft 59 (as.map (snap s.mem dep)) fun v => (as.all (fun a => !hot dep a) || plain dep v) = true ∧ K v s := WB_v ft59 rfl as s K
theorem WB60 (s : St) (as : List AV) (K : AV → St → Prop) : WB ft 60 as s K = WV ft 60 (as.map (snap s.mem dep)) fun v => (as.all (fun a => !hot dep a) || plain dep v) = true ∧ K v s := WB_v ft60 rfl as s K
theorem WB61 (s : St) (as : List AV) (K : AV → St → Prop) : WB ft 61 as s K = WV ft 61 (as.map (snap s.mem dep)) fun v => (as.all (fun a => !hot dep a) || plain dep v) = true ∧ K v s := WB_v ft61 rfl as s K
theorem WB62 (s : St) (as : List AV) (K : AV → St → Prop) : WB ft 62 as s K = WV ft 62 (as.map (snap s.mem dep)) fun v => (as.all (fun a => !hot dep a) || plain dep v) = true ∧ K v s := WB_v ft62 rfl as s K
theorem WB63 (s : St) (as : List AV) (K : AV → St → Prop) : WB ft 63 as s K = WV ft 63 (as.map (snap s.mem dep)) fun v => (as.all (fun a => !hot dep a) || plain dep v) = true ∧ K v s := WB_v ft63 rfl as s K
theorem WB64 (s : St) (as : List AV) (K : AV → St → Prop) : WB ft 64 as s K = WV ft 64 (as.map (snap s.mem dep)) fun v => (as.all (fun a => !hot dep a) || plain dep v) = true ∧ K v s := WB_v ft64 rfl as s K
theorem WB65 (s : St) (as : List AV) (K : AV → St → Prop) : WB ft 65 as s K = WV ft 65 (as.map (snap s.mem dep)) fun v => (as.all (fun a => !hot dep a) || plain dep v) = true ∧ K v s := WB_v ft65 rfl as s K
theorem WB66 (s : St) (as : List AV) (K : AV → St → Prop) : WB ft 66 as s K = WV ft 66 (as.map (snap s.mem dep)) fun v => (as.all (fun a => !hot dep a) || plain dep v) = true ∧ K v s := WB_v ft66 rfl as s K
theorem WB67 (s : St) (as : List AV) (K : AV → St → Prop) : WB ft 67 as s K = WV ft 67 (as.map (snap s.mem dep)) fun v => (as.all (fun a => !hot dep a) || plain dep v) = true ∧ K v s := WB_v ft67 rfl as s K
theorem WB68 (s : St) (as : List AV) (K : AV → St → Prop) : WB ft 68 as s K = WV ft 68 (as.map (snap s.mem dep)) fun v => (as.all (fun a => !hot dep a) || plain dep v) = true ∧ K v s := WB_v ft68 rfl as s K
theorem WB69 (s : St) (as : List AV) (K : AV → St → Prop) : WB ft 69 as s K = WV ft 69 (as.map (snap s.mem dep)) fun v => (as.all (fun a => !hot dep a) || plain dep v) = true ∧ K v s := WB_v ft69 rfl as s K
theorem WB70 (s : St) (as : List AV) (K : AV → St → Prop) : WB ft 70 as s K = WV ft 70 (as.map (snap s.mem dep)) fun v => (as.all (fun a => !hot dep a) || plain dep v) = true ∧ K v s := WB_v ft70 rfl as s K
theorem WB71 (s : St) (as : List AV) (K : AV → St → Prop) : WB ft 71 as s K = WV ft 71 (as.map (snap s.mem dep)) fun v => (as.all (fun a => !hot dep a) || plain dep v) = true ∧ K v s := WB_v ft71 rfl as s K
theorem WB72 (s : St) (as : List AV) (K : AV → St → Prop) : WB ft 72 as s K = WV ft 72 (as.map (snap s.mem dep)) fun v => (as.all (fun a => !hot dep a) || plain dep v) = true ∧ K v s := WB_v ft72 rfl as s K
theorem WB73 (s : St) (as : List AV) (K : AV → St → Prop) : WB ft 73 as s K = WV ft 73 (as.map (snap s.mem dep)) fun v => (as.all (fun a => !hot dep a) || plain dep v) = true ∧ K v s := WB_v ft73 rfl as s K
theorem WB74 (s : St) (as : List AV) (K : AV → St → Prop) : WB ft 74 as s K = WV ft 74 (as.map (snap s.mem dep)) fun v => (as.all (fun a => !hot dep a) || plain dep v) = true ∧ K v s := WB_v ft74 rfl as s K
theorem WB75 (s : St) (as : List AV) (K : AV → St → Prop) : WB ft 75 as s K = WV ft 75 (as.map (snap s.mem dep)) fun v => (as.all (fun a => !hot dep a) || plain dep v) = true ∧ K v s := WB_v ft75 rfl as s K
theorem WB76 (s : St) (as : List AV) (K : AV → St → Prop) : WB ft 76 as s K = WV ft 76 (as.map (snap s.mem dep)) fun v => (as.all (fun a => !hot dep a) || plain dep v) = true ∧ K v s := WB_v ft76 rfl as s K
theorem WB77 (s : St) (as : List AV) (K : AV → St → Prop) : WB ft 77 as s K = WR ft (.f 77) as s.mem fun v m => K v (s.setMem m) := WB_r ft77 rfl as s K
theorem WB78 (s : St) (as : List AV) (K : AV → St → Prop) : WB ft 78 as s K = WV ft 78 (as.map (snap s.mem dep)) fun v => (as.all (fun a => !hot dep a) || plain dep v) = true ∧ K v s := WB_v ft78 rfl as s K
theorem WB79 (s : St) (as : List AV) (K : AV → St → Prop) : WB ft 79 as s K = WV ft 79 (as.map (snap s.mem dep)) fun v => (as.all (fun a => !hot dep a) || plain dep v) = true ∧ K v s := WB_v ft79 rfl as s K
theorem WB80 (s : St) (as : List AV) (K : AV → St → Prop) : WB ft 80 as s K = WV ft 80 (as.map (snap s.mem dep)) fun v => (as.all (fun a => !hot dep a) || plain dep v) = true ∧ K v s := WB_v ft80 rfl as s K
theorem WB81 (s : St) (as : List AV) (K : AV → St → Prop) : WB ft 81 as s K = WV ft 81 (as.map (snap s.mem dep)) fun v => (as.all (fun a => !hot dep a) || plain dep v) = true ∧ K v s := WB_v ft81 rfl as s K
theorem WB82 (s : St) (as : List AV) (K : AV → St → Prop) : WB ft 82 as s K = WV ft 82 (as.map (snap s.mem dep)) fun v => (as.all (fun a => !hot dep a) || plain dep v) = true ∧ K v s := WB_v ft82 rfl as s K
theorem WB83 (s : St) (as : List AV) (K : AV → St → Prop) : WB ft 83 as s K = WR ft (.f 83) (as.map (snap s.mem dep)) .nil fun v m => (as.all (fun a => !hot dep a) || (ownly dep v && m.blks.all Blk.ownly)) = true ∧
      K (shift s.mem.blks.length s.mem.toks.length dep v) (s.setMem (joinMem s.mem m dep)) := WB_o ft83 rfl as s K
theorem WB84 (s : St) (as : List AV) (K : AV → St → Prop) : WB ft 84 as s K = WV ft 84 (as.map (snap s.mem dep)) fun v => (as.all (fun a => !hot dep a) || plain dep v) = true ∧ K v s := WB_v ft84 rfl as s K
theorem WB85 (s : St) (as : List AV) (K : AV → St → Prop) : WB ft 85 as s K = WV ft 85 (as.map (snap s.mem dep)) fun v => (as.all (fun a => !hot dep a) || plain dep v) = true ∧ K v s := WB_v ft85 rfl as s K
theorem WB86 (s : St) (as : List AV) (K : AV → St → Prop) : WB ft 86 as s K = WV ft 86 (as.map (snap s.mem dep)) fun v => (as.all (fun a => !hot dep a) || plain dep v) = true ∧ K v s := WB_v ft86 rfl as s K
theorem WB87 (s : St) (as : List AV) (K : AV → St → Prop) : WB ft 87 as s K = WV ft 87 (as.map (snap s.mem dep)) fun v => (as.all (fun a => !hot dep a) || plain dep v) = true ∧ K v s := WB_v ft87 rfl as s K
theorem WB88 (s : St) (as : List AV) (K : AV → St → Prop) : WB ft 88 as s K = WV ft 88 (as.map (snap s.mem dep)) fun v => (as.all (fun a => !hot dep a) || plain dep v) = true ∧ K v s := WB_v ft88 rfl as s K
theorem WB89 (s : St) (as : List AV) (K : AV → St → Prop) : WB ft 89 as s K = WV ft 89 (as.map (snap s.mem dep)) fun v => (as.all (fun a => !hot dep a) || plain dep v) = true ∧ K v s := WB_v ft89 rfl as s K
theorem WB90 (s : St) (as : List AV) (K : AV → St → Prop) : WB ft 90 as s K = WV ft 90 (as.map (snap s.mem dep)) fun v => (as.all (fun a => !hot dep a) || plain dep v) = true ∧ K v s := WB_v ft90 rfl as s K
theorem WB91 (s : St) (as : List AV) (K : AV → St → Prop) : WB ft 91 as s K = WV ft 91 (as.map (snap s.mem dep)) fun v => (as.all (fun a => !hot dep a) || plain dep v) = true ∧ K v s := WB_v ft91 rfl as s K
theorem WB92 (s : St) (as : List AV) (K : AV → St → Prop) : WB ft 92 as s K = WV ft 92 (as.map (snap s.mem dep)) fun v => (as.all (fun a => !hot dep a) || plain dep v) = true ∧ K v s := WB_v ft92 rfl as s K
theorem WB93 (s : St) (as : List AV) (K : AV → St → Prop) : WB ft 93 as s K = WV ft 93 (as.map (snap s.mem dep)) fun v => (as.all (fun a => !hot dep a) || plain dep v) = true ∧ K v s := WB_v ft93 rfl as s K
theorem WB94 (s : St) (as : List AV) (K : AV → St → Prop) : WB ft 94 as s K = WV ft 94 (as.map (snap s.mem dep)) fun v => (as.all (fun a => !hot dep a) || plain dep v) = true ∧ K v s := WB_v ft94 rfl as s K
theorem WB95 (s : St) (as : List AV) (K : AV → St → Prop) : WB ft 95 as s K = WV ft 95 (as.map (snap s.mem dep)) fun v => (as.all (fun a => !hot dep a) || plain dep v) = true ∧ K v s := WB_v ft95 rfl as s K
theorem WB96 (s : St) (as : List AV) (K : AV → St → Prop) : WB ft 96 as s K = WV ft 96 (as.map (snap s.mem dep)) fun v => (as.all (fun a => !hot dep a) || plain dep v) = true ∧ K v s := WB_v ft96 rfl as s K
theorem WB97 (s : St) (as : List AV) (K : AV → St → Prop) : WB ft 97 as s K = WR ft (.f 97) as s.mem fun v m => K v (s.setMem m) := WB_r ft97 rfl as s K
theorem WB98 (s : St) (as : List AV) (K : AV → St → Prop) : WB ft 98 as s K = WR ft (.f 98) as s.mem fun v m => K v (s.setMem m) := WB_r ft98 rfl as s K
theorem WB99 (s : St) (as : List AV) (K : AV → St → Prop) : WB ft 99 as s K = WV ft 99 (as.map (snap s.mem dep)) fun v => (as.all (fun a => !hot dep a) || plain dep v) = true ∧ K v s := WB_v ft99 rfl as s K
theorem WB100 (s : St) (as : List AV) (K : AV → St → Prop) : WB ft 100 as s K = WV ft 100 (as.map (snap s.mem dep)) fun v => (as.all (fun a => !hot dep a) || plain dep v) = true ∧ K v s := WB_v ft100 rfl as s K
theorem WB101 (s : St) (as : List AV) (K : AV → St → Prop) : WB ft 101 as s K = WV ft 101 (as.map (snap s.mem dep)) fun v => (as.all (fun a => !hot dep a) || plain dep v) = true ∧ K v s := WB_v ft101 rfl as s K
theorem WB102 (s : St) (as : List AV) (K : AV → St → Prop) : WB ft 102 as s K = WV ft 102 (as.map (snap s.mem dep)) fun v => (as.all (fun a => !hot dep a) || plain dep v) = true ∧ K v s := WB_v ft102 rfl as s K
theorem WB103 (s : St) (as : List AV) (K : AV → St → Prop) : WB ft 103 as s K = WV ft 103 (as.map (snap s.mem dep)) fun v => (as.all (fun a => !hot dep a) || plain dep v) = true ∧ K v s := WB_v ft103 rfl as s K
theorem WB104 (s : St) (as : List AV) (K : AV → St → Prop) : WB ft 104 as s K = WV ft 104 (as.map (snap s.mem dep)) fun v => (as.all (fun a => !hot dep a) || plain dep v) = true ∧ K v s := WB_v ft104 rfl as s K
theorem WB105 (s : St) (as : List AV) (K : AV → St → Prop) : WB ft 105 as s K = WV ft 105 (as.map (snap s.mem dep)) fun v => (as.all (fun a => !hot dep a) || plain dep v) = true ∧ K v s := WB_v ft105 rfl as s K
theorem WB106 (s : St) (as : List AV) (K : AV → St → Prop) : WB ft 106 as s K = WV ft 106 (as.map (snap s.mem dep)) fun v => (as.all (fun a => !hot dep a) || plain dep v) = true ∧ K v s := WB_v ft106 rfl as s K
theorem WB107 (s : St) (as : List AV) (K : AV → St → Prop) : WB ft 107 as s K = WV ft 107 (as.map (snap s.mem dep)) fun v => (as.all (fun a => !hot dep a) || plain dep v) = true ∧ K v s := WB_v ft107 rfl as s K
theorem WB108 (s : St) (as : List AV) (K : AV → St → Prop) : WB ft 108 as s K = WV ft 108 (as.map (snap s.mem dep)) fun v => (as.all (fun a => !hot dep a) || plain dep v) = true ∧ K v s := WB_v ft108 rfl as s K
theorem WB109 (s : St) (as : List AV) (K : AV → St → Prop) : WB ft 109 as s K = WV ft 109 (as.map (snap s.mem dep)) fun v => (as.all (fun a => !hot dep a) || plain dep v) = true ∧ K v s := WB_v ft109 rfl as s K
theorem WB110 (s : St) (as : List AV) (K : AV → St → Prop) : WB ft 110 as s K = WV ft 110 (as.map (snap s.mem dep)) fun v => (as.all (fun a => !hot dep a) || plain dep v) = true ∧ K v s := WB_v ft110 rfl as s K
theorem WB111 (s : St) (as : List AV) (K : AV → St → Prop) : WB ft 111 as s K = WV ft 111 (as.map (snap s.mem dep)) fun v => (as.all (fun a => !hot dep a) || plain dep v) = true ∧ K v s := WB_v ft111 rfl as s K
theorem WB112 (s : St) (as : List AV) (K : AV → St → Prop) : WB ft 112 as s K = WV ft 112 (as.map (snap s.mem dep)) fun v => (as.all (fun a => !hot dep a) || plain dep v) = true ∧ K v s := WB_v ft112 rfl as s K
theorem WB113 (s : St) (as : List AV) (K : AV → St → Prop) : WB ft 113 as s K = WV ft 113 (as.map (snap s.mem dep)) fun v => (as.all (fun a => !hot dep a) || plain dep v) = true ∧ K v s := WB_v ft113 rfl as s K
theorem WB114 (s : St) (as : List AV) (K : AV → St → Prop) : WB ft 114 as s K = WV ft 114 (as.map (snap s.mem dep)) fun v => (as.all (fun a => !hot dep a) || plain dep v) = true ∧ K v s := WB_v ft114 rfl as s K
theorem WB115 (s : St) (as : List AV) (K : AV → St → Prop) : WB ft 115 as s K = WV ft 115 (as.map (snap s.mem dep)) fun v => (as.all (fun a => !hot dep a) || plain dep v) = true ∧ K v s := WB_v ft115 rfl as s K
theorem WB116 (s : St) (as : List AV) (K : AV → St → Prop) : WB ft 116 as s K = WV ft 116 (as.map (snap s.mem dep)) fun v => (as.all (fun a => !hot dep a) || plain dep v) = true ∧ K v s := WB_v ft116 rfl as s K
theorem WF13 (s : St) (as : List AV) (K : AV → St → Prop) : WF ft 13 as s K = WV ft 13 (as.map (snap s.mem dep)) fun v => (as.all (fun a => !hot dep a) || plain dep v) = true ∧ K v s := WF_v ft13 as s K
end Go.Ab.T
end
