/-
  A part of the proofs over this seat.
  (The texts AxT AxW, one behind the other.)
-/
import Derived.Test.YtbbpdlobjbpchaaDoorA0
set_option linter.unusedSimpArgs false
set_option linter.unusedVariables false
set_option linter.unusedSectionVars false
section
namespace Go.Ab.T
def tab0 : AV := .agg [.int .u8 0, .int .u8 1, .int .u8 56, .int .u8 2, .int .u8 57, .int .u8 49, .int .u8 28, .int .u8 3, .int .u8 61, .int .u8 58, .int .u8 42, .int .u8 50, .int .u8 38, .int .u8 29, .int .u8 17, .int .u8 4, .int .u8 62, .int .u8 47, .int .u8 59, .int .u8 36, .int .u8 45, .int .u8 43, .int .u8 51, .int .u8 22, .int .u8 53, .int .u8 39, .int .u8 33, .int .u8 30, .int .u8 24, .int .u8 18, .int .u8 12, .int .u8 5, .int .u8 63, .int .u8 55, .int .u8 48, .int .u8 27, .int .u8 60, .int .u8 41, .int .u8 37, .int .u8 16, .int .u8 46, .int .u8 35, .int .u8 44, .int .u8 21, .int .u8 52, .int .u8 32, .int .u8 23, .int .u8 11, .int .u8 54, .int .u8 26, .int .u8 40, .int .u8 15, .int .u8 34, .int .u8 20, .int .u8 31, .int .u8 10, .int .u8 25, .int .u8 14, .int .u8 19, .int .u8 9, .int .u8 13, .int .u8 8, .int .u8 7, .int .u8 6]
def tab1 : AV := .agg [.int .u8 0, .int .u8 1, .int .u8 28, .int .u8 2, .int .u8 29, .int .u8 14, .int .u8 24, .int .u8 3, .int .u8 30, .int .u8 22, .int .u8 20, .int .u8 15, .int .u8 25, .int .u8 17, .int .u8 4, .int .u8 8, .int .u8 31, .int .u8 27, .int .u8 13, .int .u8 23, .int .u8 21, .int .u8 19, .int .u8 16, .int .u8 7, .int .u8 26, .int .u8 12, .int .u8 18, .int .u8 6, .int .u8 11, .int .u8 5, .int .u8 10, .int .u8 9]
def tab2 : AV := .agg [.int .u64 12297829382473034410, .int .u64 14757395258967641292, .int .u64 17361641481138401520, .int .u64 18374966859414961920, .int .u64 18446462603027742720, .int .u64 18446744069414584320]
/-- gosem.cut.init -/
def c2 : ACode := .region [⟨(some 0), none, .call 1 []⟩]
def r2 : List Res := []
def a2 : AFn := ⟨0, c2, r2, .v⟩

/-- bijou/bijoulaw01.ReelSpans -/
def c3 : ACode := .seq (.region [⟨(some 1), none, .box (.t 0) 2⟩,
    ⟨(some 2), none, .mov (.c (.bool false))⟩])
  (.seq (.seq (.region [⟨(some 25), none, .load (.t 1) (some 2)⟩,
    ⟨(some 26), none, .call 14 [(.t 25)]⟩])
  (.cond (.t 26) (.seq (.region [⟨(some 27), none, .call 15 []⟩,
    ⟨(some 2), none, .mov (.t 27)⟩])
  (.ret))
  (.skip)))
  (.seq (.region [⟨(some 28), none, .load (.t 1) (some 2)⟩,
    ⟨(some 29), none, .callf 16 [(.t 28)]⟩,
    ⟨(some 3), none, .new (.agg [(.int .i64 0), (.sl [] .tight)]) 2⟩,
    ⟨none, none, .store (.t 3) (.t 29) 2⟩])
  (.seq (.region [⟨(some 31), none, .load (.t 3) (some 2)⟩,
    ⟨(some 32), none, .call 17 [(.t 31)]⟩,
    ⟨(some 30), none, .mov (.t 32)⟩,
    ⟨(some 33), none, .ext (.t 30) 0⟩,
    ⟨(some 34), none, .ext (.t 30) 1⟩,
    ⟨(some 4), none, .mov (.t 33)⟩,
    ⟨(some 5), none, .mov (.t 34)⟩])
  (.seq (.region [⟨(some 36), none, .load (.t 1) (some 2)⟩,
    ⟨(some 37), none, .call 18 [(.t 36)]⟩,
    ⟨(some 35), none, .mov (.t 37)⟩,
    ⟨(some 38), none, .ext (.t 35) 0⟩,
    ⟨(some 39), none, .ext (.t 35) 1⟩,
    ⟨(some 6), none, .mov (.t 38)⟩,
    ⟨(some 7), none, .mov (.t 39)⟩])
  (.seq (.region [⟨(some 41), none, .load (.t 3) (some 2)⟩,
    ⟨(some 42), none, .call 19 [(.t 41)]⟩,
    ⟨(some 40), none, .mov (.t 42)⟩,
    ⟨(some 43), none, .ext (.t 40) 0⟩,
    ⟨(some 44), none, .ext (.t 40) 1⟩,
    ⟨(some 8), none, .mov (.t 43)⟩,
    ⟨(some 9), none, .mov (.t 44)⟩])
  (.seq (.region [⟨(some 46), none, .load (.t 1) (some 2)⟩,
    ⟨(some 47), none, .call 20 [(.t 46)]⟩,
    ⟨(some 45), none, .mov (.t 47)⟩,
    ⟨(some 48), none, .ext (.t 45) 0⟩,
    ⟨(some 49), none, .ext (.t 45) 1⟩,
    ⟨(some 10), none, .mov (.t 48)⟩,
    ⟨(some 11), none, .mov (.t 49)⟩])
  (.seq (.seq (.region [⟨(some 50), none, .load (.t 3) (some 2)⟩,
    ⟨(some 51), none, .call 21 [(.t 50)]⟩,
    ⟨(some 52), none, .load (.t 1) (some 2)⟩,
    ⟨(some 53), none, .call 22 [(.t 52)]⟩,
    ⟨(some 54), none, .bin .neq (.t 51) (.t 53)⟩,
    ⟨(some 55), none, .mov (.t 54)⟩,
    ⟨(some 56), some (55, false), .mov (.t 4)⟩,
    ⟨(some 57), some (55, false), .mov (.t 6)⟩,
    ⟨(some 58), some (55, false), .bin .neq (.t 56) (.t 57)⟩,
    ⟨(some 59), none, .pick (.t 55) (.c (.bool true)) (.t 58)⟩,
    ⟨(some 60), none, .mov (.t 59)⟩,
    ⟨(some 61), some (60, false), .mov (.t 5)⟩,
    ⟨(some 62), some (60, false), .mov (.t 7)⟩,
    ⟨(some 63), some (60, false), .bin .neq (.t 61) (.t 62)⟩,
    ⟨(some 64), none, .pick (.t 60) (.c (.bool true)) (.t 63)⟩,
    ⟨(some 65), none, .mov (.t 64)⟩,
    ⟨(some 66), some (65, false), .mov (.t 8)⟩,
    ⟨(some 67), some (65, false), .mov (.t 10)⟩,
    ⟨(some 68), some (65, false), .bin .neq (.t 66) (.t 67)⟩,
    ⟨(some 69), none, .pick (.t 65) (.c (.bool true)) (.t 68)⟩,
    ⟨(some 70), none, .mov (.t 69)⟩,
    ⟨(some 71), some (70, false), .mov (.t 9)⟩,
    ⟨(some 72), some (70, false), .mov (.t 11)⟩,
    ⟨(some 73), some (70, false), .bin .neq (.t 71) (.t 72)⟩,
    ⟨(some 74), none, .pick (.t 70) (.c (.bool true)) (.t 73)⟩])
  (.cond (.t 74) (.seq (.region [⟨(some 2), none, .mov (.c (.bool false))⟩])
  (.ret))
  (.skip)))
  (.seq (.region [⟨(some 76), none, .load (.t 3) (some 2)⟩,
    ⟨(some 77), none, .call 23 [(.t 76)]⟩,
    ⟨(some 75), none, .mov (.t 77)⟩,
    ⟨(some 78), none, .ext (.t 75) 0⟩,
    ⟨(some 79), none, .ext (.t 75) 1⟩,
    ⟨(some 12), none, .new (.agg [(.int .i64 0), (.int .i64 0)]) 2⟩,
    ⟨none, none, .store (.t 12) (.t 78) 2⟩,
    ⟨(some 13), none, .mov (.t 79)⟩])
  (.seq (.region [⟨(some 81), none, .load (.t 1) (some 2)⟩,
    ⟨(some 82), none, .call 24 [(.t 81)]⟩,
    ⟨(some 80), none, .mov (.t 82)⟩,
    ⟨(some 83), none, .ext (.t 80) 0⟩,
    ⟨(some 84), none, .ext (.t 80) 1⟩,
    ⟨(some 14), none, .new (.agg [(.int .i64 0), (.int .i64 0)]) 2⟩,
    ⟨none, none, .store (.t 14) (.t 83) 2⟩,
    ⟨(some 15), none, .mov (.t 84)⟩])
  (.seq (.region [⟨(some 86), none, .load (.t 3) (some 2)⟩,
    ⟨(some 87), none, .call 25 [(.t 86)]⟩,
    ⟨(some 85), none, .mov (.t 87)⟩,
    ⟨(some 88), none, .ext (.t 85) 0⟩,
    ⟨(some 89), none, .ext (.t 85) 1⟩,
    ⟨(some 16), none, .new (.agg [(.int .i64 0), (.int .i64 0)]) 2⟩,
    ⟨none, none, .store (.t 16) (.t 88) 2⟩,
    ⟨(some 17), none, .mov (.t 89)⟩])
  (.seq (.region [⟨(some 91), none, .load (.t 1) (some 2)⟩,
    ⟨(some 92), none, .call 26 [(.t 91)]⟩,
    ⟨(some 90), none, .mov (.t 92)⟩,
    ⟨(some 93), none, .ext (.t 90) 0⟩,
    ⟨(some 94), none, .ext (.t 90) 1⟩,
    ⟨(some 18), none, .new (.agg [(.int .i64 0), (.int .i64 0)]) 2⟩,
    ⟨none, none, .store (.t 18) (.t 93) 2⟩,
    ⟨(some 19), none, .mov (.t 94)⟩])
  (.seq (.region [⟨(some 96), none, .load (.t 3) (some 2)⟩,
    ⟨(some 97), none, .call 27 [(.t 96)]⟩,
    ⟨(some 95), none, .mov (.t 97)⟩,
    ⟨(some 98), none, .ext (.t 95) 0⟩,
    ⟨(some 99), none, .ext (.t 95) 1⟩,
    ⟨(some 20), none, .new (.agg [(.int .i64 0), (.int .i64 0)]) 2⟩,
    ⟨none, none, .store (.t 20) (.t 98) 2⟩,
    ⟨(some 21), none, .mov (.t 99)⟩])
  (.seq (.region [⟨(some 101), none, .load (.t 1) (some 2)⟩,
    ⟨(some 102), none, .call 28 [(.t 101)]⟩,
    ⟨(some 100), none, .mov (.t 102)⟩,
    ⟨(some 103), none, .ext (.t 100) 0⟩,
    ⟨(some 104), none, .ext (.t 100) 1⟩,
    ⟨(some 22), none, .new (.agg [(.int .i64 0), (.int .i64 0)]) 2⟩,
    ⟨none, none, .store (.t 22) (.t 103) 2⟩,
    ⟨(some 23), none, .mov (.t 104)⟩])
  (.seq (.seq (.region [⟨(some 105), none, .load (.t 12) (some 2)⟩,
    ⟨(some 106), none, .load (.t 14) (some 2)⟩,
    ⟨(some 107), none, .eqv true true [.i, .i] (.t 105) (.t 106)⟩,
    ⟨(some 108), none, .mov (.t 107)⟩,
    ⟨(some 109), some (108, false), .mov (.t 13)⟩,
    ⟨(some 110), some (108, false), .mov (.t 15)⟩,
    ⟨(some 111), some (108, false), .bin .neq (.t 109) (.t 110)⟩,
    ⟨(some 112), none, .pick (.t 108) (.c (.bool true)) (.t 111)⟩,
    ⟨(some 113), none, .mov (.t 112)⟩,
    ⟨(some 114), some (113, false), .load (.t 16) (some 2)⟩,
    ⟨(some 115), some (113, false), .load (.t 18) (some 2)⟩,
    ⟨(some 116), some (113, false), .eqv true true [.i, .i] (.t 114) (.t 115)⟩,
    ⟨(some 117), none, .pick (.t 113) (.c (.bool true)) (.t 116)⟩,
    ⟨(some 118), none, .mov (.t 117)⟩,
    ⟨(some 119), some (118, false), .mov (.t 17)⟩,
    ⟨(some 120), some (118, false), .mov (.t 19)⟩,
    ⟨(some 121), some (118, false), .bin .neq (.t 119) (.t 120)⟩,
    ⟨(some 122), none, .pick (.t 118) (.c (.bool true)) (.t 121)⟩,
    ⟨(some 123), none, .mov (.t 122)⟩,
    ⟨(some 124), some (123, false), .load (.t 20) (some 2)⟩,
    ⟨(some 125), some (123, false), .load (.t 22) (some 2)⟩,
    ⟨(some 126), some (123, false), .eqv true true [.i, .i] (.t 124) (.t 125)⟩,
    ⟨(some 127), none, .pick (.t 123) (.c (.bool true)) (.t 126)⟩,
    ⟨(some 128), none, .mov (.t 127)⟩,
    ⟨(some 129), some (128, false), .mov (.t 21)⟩,
    ⟨(some 130), some (128, false), .mov (.t 23)⟩,
    ⟨(some 131), some (128, false), .bin .neq (.t 129) (.t 130)⟩,
    ⟨(some 132), none, .pick (.t 128) (.c (.bool true)) (.t 131)⟩])
  (.cond (.t 132) (.seq (.region [⟨(some 2), none, .mov (.c (.bool false))⟩])
  (.ret))
  (.skip)))
  (.seq (.seq (.region [⟨(some 24), none, .mov (.c (.int .i64 0))⟩])
  (.block 0 (.loop (.seq (.seq (.region [⟨(some 133), none, .mov (.t 24)⟩,
    ⟨(some 134), none, .addr (.t 1) 1⟩,
    ⟨(some 135), none, .load (.t 134) none⟩,
    ⟨(some 136), none, .len (.t 135)⟩,
    ⟨(some 137), none, .bin .lss (.t 133) (.t 136)⟩])
  (.cond (.t 137) (.skip)
  (.exit 0)))
  (.seq (.block 1 (.seq (.region [⟨(some 140), none, .addr (.t 3) 1⟩,
    ⟨(some 141), none, .load (.t 140) none⟩,
    ⟨(some 142), none, .mov (.t 24)⟩,
    ⟨(some 143), none, .idx (.t 141) (.t 142) 5⟩,
    ⟨(some 144), none, .load (.t 143) (some 5)⟩,
    ⟨(some 145), none, .addr (.t 1) 1⟩,
    ⟨(some 146), none, .load (.t 145) none⟩,
    ⟨(some 147), none, .mov (.t 24)⟩,
    ⟨(some 148), none, .idx (.t 146) (.t 147) 5⟩,
    ⟨(some 149), none, .load (.t 148) (some 5)⟩,
    ⟨(some 150), none, .eqv true true [.i, .i, .i, .i, .i] (.t 144) (.t 149)⟩])
  (.cond (.t 150) (.seq (.region [⟨(some 2), none, .mov (.c (.bool false))⟩])
  (.ret))
  (.skip))))
  (.region [⟨(some 138), none, .mov (.t 24)⟩,
    ⟨(some 139), none, .bin .add (.t 138) (.c (.int .i64 1))⟩,
    ⟨(some 24), none, .mov (.t 139)⟩]))))))
  (.seq (.region [⟨(some 151), none, .call 15 []⟩,
    ⟨(some 2), none, .mov (.t 151)⟩])
  (.ret)))))))))))))))))
def r3 : List Res := [.t 2]
def a3 : AFn := ⟨1, c3, r3, .v⟩

/-- bijou/bijoulaw01.ReelFeet -/
def c4 : ACode := .seq (.region [⟨(some 2), none, .box (.t 0) 2⟩,
    ⟨(some 3), none, .box (.t 1) 3⟩,
    ⟨(some 4), none, .mov (.c (.bool false))⟩])
  (.seq (.seq (.region [⟨(some 14), none, .load (.t 2) (some 2)⟩,
    ⟨(some 15), none, .call 14 [(.t 14)]⟩])
  (.cond (.t 15) (.seq (.region [⟨(some 16), none, .call 15 []⟩,
    ⟨(some 4), none, .mov (.t 16)⟩])
  (.ret))
  (.skip)))
  (.seq (.region [⟨(some 17), none, .load (.t 2) (some 2)⟩,
    ⟨(some 18), none, .callf 16 [(.t 17)]⟩,
    ⟨(some 5), none, .new (.agg [(.int .i64 0), (.sl [] .tight)]) 2⟩,
    ⟨none, none, .store (.t 5) (.t 18) 2⟩])
  (.seq (.region [⟨(some 20), none, .load (.t 5) (some 2)⟩,
    ⟨(some 21), none, .addr (.t 3) 0⟩,
    ⟨(some 22), none, .load (.t 21) none⟩,
    ⟨(some 23), none, .call 29 [(.t 20), (.t 22)]⟩,
    ⟨(some 19), none, .mov (.t 23)⟩,
    ⟨(some 24), none, .ext (.t 19) 0⟩,
    ⟨(some 25), none, .ext (.t 19) 1⟩,
    ⟨(some 6), none, .mov (.t 24)⟩,
    ⟨(some 7), none, .mov (.t 25)⟩])
  (.seq (.region [⟨(some 27), none, .load (.t 2) (some 2)⟩,
    ⟨(some 28), none, .addr (.t 3) 0⟩,
    ⟨(some 29), none, .load (.t 28) none⟩,
    ⟨(some 30), none, .call 30 [(.t 27), (.t 29)]⟩,
    ⟨(some 26), none, .mov (.t 30)⟩,
    ⟨(some 31), none, .ext (.t 26) 0⟩,
    ⟨(some 32), none, .ext (.t 26) 1⟩,
    ⟨(some 8), none, .mov (.t 31)⟩,
    ⟨(some 9), none, .mov (.t 32)⟩])
  (.seq (.region [⟨(some 34), none, .load (.t 5) (some 2)⟩,
    ⟨(some 35), none, .addr (.t 3) 1⟩,
    ⟨(some 36), none, .load (.t 35) none⟩,
    ⟨(some 37), none, .addr (.t 3) 2⟩,
    ⟨(some 38), none, .load (.t 37) none⟩,
    ⟨(some 39), none, .call 31 [(.t 34), (.t 36), (.t 38)]⟩,
    ⟨(some 33), none, .mov (.t 39)⟩,
    ⟨(some 40), none, .ext (.t 33) 0⟩,
    ⟨(some 41), none, .ext (.t 33) 1⟩,
    ⟨(some 10), none, .new (.agg [(.int .i64 0), (.int .i64 0)]) 2⟩,
    ⟨none, none, .store (.t 10) (.t 40) 2⟩,
    ⟨(some 11), none, .mov (.t 41)⟩])
  (.seq (.region [⟨(some 43), none, .load (.t 2) (some 2)⟩,
    ⟨(some 44), none, .addr (.t 3) 1⟩,
    ⟨(some 45), none, .load (.t 44) none⟩,
    ⟨(some 46), none, .addr (.t 3) 2⟩,
    ⟨(some 47), none, .load (.t 46) none⟩,
    ⟨(some 48), none, .call 32 [(.t 43), (.t 45), (.t 47)]⟩,
    ⟨(some 42), none, .mov (.t 48)⟩,
    ⟨(some 49), none, .ext (.t 42) 0⟩,
    ⟨(some 50), none, .ext (.t 42) 1⟩,
    ⟨(some 12), none, .new (.agg [(.int .i64 0), (.int .i64 0)]) 2⟩,
    ⟨none, none, .store (.t 12) (.t 49) 2⟩,
    ⟨(some 13), none, .mov (.t 50)⟩])
  (.seq (.region [⟨(some 51), none, .mov (.t 6)⟩,
    ⟨(some 52), none, .mov (.t 8)⟩,
    ⟨(some 53), none, .bin .eql (.t 51) (.t 52)⟩,
    ⟨(some 54), none, .mov (.t 53)⟩,
    ⟨(some 55), some (54, true), .mov (.t 7)⟩,
    ⟨(some 56), some (54, true), .mov (.t 9)⟩,
    ⟨(some 57), some (54, true), .bin .eql (.t 55) (.t 56)⟩,
    ⟨(some 58), none, .pick (.t 54) (.t 57) (.c (.bool false))⟩,
    ⟨(some 59), none, .mov (.t 58)⟩,
    ⟨(some 60), some (59, true), .load (.t 10) (some 2)⟩,
    ⟨(some 61), some (59, true), .load (.t 12) (some 2)⟩,
    ⟨(some 62), some (59, true), .eqv false true [.i, .i] (.t 60) (.t 61)⟩,
    ⟨(some 63), none, .pick (.t 59) (.t 62) (.c (.bool false))⟩,
    ⟨(some 64), none, .mov (.t 63)⟩,
    ⟨(some 65), some (64, true), .mov (.t 11)⟩,
    ⟨(some 66), some (64, true), .mov (.t 13)⟩,
    ⟨(some 67), some (64, true), .bin .eql (.t 65) (.t 66)⟩,
    ⟨(some 68), none, .pick (.t 64) (.t 67) (.c (.bool false))⟩,
    ⟨(some 69), none, .mov (.t 68)⟩,
    ⟨(some 70), some (69, true), .call 15 []⟩,
    ⟨(some 71), none, .pick (.t 69) (.t 70) (.c (.bool false))⟩,
    ⟨(some 4), none, .mov (.t 71)⟩])
  (.ret))))))))
def r4 : List Res := [.t 4]
def a4 : AFn := ⟨2, c4, r4, .v⟩

/-- bijou/bijoulaw01.ReelShows -/
def c5 : ACode := .seq (.region [⟨(some 1), none, .box (.t 0) 2⟩,
    ⟨(some 2), none, .mov (.c (.bool false))⟩])
  (.seq (.seq (.region [⟨(some 7), none, .load (.t 1) (some 2)⟩,
    ⟨(some 8), none, .call 14 [(.t 7)]⟩])
  (.cond (.t 8) (.seq (.region [⟨(some 9), none, .call 15 []⟩,
    ⟨(some 2), none, .mov (.t 9)⟩])
  (.ret))
  (.skip)))
  (.seq (.region [⟨(some 11), none, .load (.t 1) (some 2)⟩,
    ⟨(some 12), none, .callf 16 [(.t 11)]⟩,
    ⟨(some 13), none, .call 33 [(.t 12)]⟩,
    ⟨(some 10), none, .mov (.t 13)⟩,
    ⟨(some 14), none, .ext (.t 10) 0⟩,
    ⟨(some 15), none, .ext (.t 10) 1⟩,
    ⟨(some 3), none, .mov (.t 14)⟩,
    ⟨(some 4), none, .mov (.t 15)⟩])
  (.seq (.seq (.region [⟨(some 16), none, .mov (.t 4)⟩,
    ⟨(some 17), none, .load (.t 1) (some 2)⟩,
    ⟨(some 18), none, .call 34 [(.t 17)]⟩,
    ⟨(some 19), none, .bin .neq (.t 16) (.t 18)⟩,
    ⟨(some 20), none, .mov (.t 19)⟩,
    ⟨(some 21), some (20, false), .mov (.t 4)⟩,
    ⟨(some 22), some (20, false), .bin .neq (.t 21) (.c (.int .i64 0))⟩,
    ⟨(some 23), some (20, false), .mov (.t 22)⟩,
    ⟨(some 24), some (23, true), .mov (.t 3)⟩,
    ⟨(some 25), some (23, true), .len (.t 24)⟩,
    ⟨(some 26), some (23, true), .bin .gtr (.t 25) (.c (.int .i64 0))⟩,
    ⟨(some 27), some (20, false), .pick (.t 23) (.t 26) (.c (.bool false))⟩,
    ⟨(some 28), none, .pick (.t 20) (.c (.bool true)) (.t 27)⟩])
  (.cond (.t 28) (.seq (.region [⟨(some 2), none, .mov (.c (.bool false))⟩])
  (.ret))
  (.skip)))
  (.seq (.seq (.region [⟨(some 29), none, .mov (.t 4)⟩,
    ⟨(some 30), none, .bin .neq (.t 29) (.c (.int .i64 0))⟩])
  (.cond (.t 30) (.seq (.region [⟨(some 31), none, .call 15 []⟩,
    ⟨(some 2), none, .mov (.t 31)⟩])
  (.ret))
  (.skip)))
  (.seq (.region [⟨(some 33), none, .mov (.t 3)⟩,
    ⟨(some 34), none, .addr (.t 1) 0⟩,
    ⟨(some 35), none, .load (.t 34) none⟩,
    ⟨(some 36), none, .call 35 [(.t 33), (.t 35)]⟩,
    ⟨(some 32), none, .mov (.t 36)⟩,
    ⟨(some 37), none, .ext (.t 32) 0⟩,
    ⟨(some 38), none, .ext (.t 32) 1⟩,
    ⟨(some 5), none, .mov (.t 37)⟩,
    ⟨(some 6), none, .mov (.t 38)⟩])
  (.seq (.region [⟨(some 39), none, .mov (.t 6)⟩,
    ⟨(some 40), none, .mov (.t 39)⟩,
    ⟨(some 41), some (40, true), .load (.t 1) (some 2)⟩,
    ⟨(some 42), some (40, true), .mov (.t 5)⟩,
    ⟨(some 43), some (40, true), .call 36 [(.t 41), (.t 42)]⟩,
    ⟨(some 44), none, .pick (.t 40) (.t 43) (.c (.bool false))⟩,
    ⟨(some 45), none, .mov (.t 44)⟩,
    ⟨(some 46), some (45, true), .call 15 []⟩,
    ⟨(some 47), none, .pick (.t 45) (.t 46) (.c (.bool false))⟩,
    ⟨(some 2), none, .mov (.t 47)⟩])
  (.ret)))))))
def r5 : List Res := [.t 2]
def a5 : AFn := ⟨1, c5, r5, .v⟩

/-- bijou/bijoulaw01.ReelLacks -/
def c6 : ACode := .seq (.region [⟨(some 2), none, .mov (.c (.bool false))⟩])
  (.seq (.seq (.region [⟨(some 9), none, .mov (.t 0)⟩,
    ⟨(some 10), none, .len (.t 9)⟩,
    ⟨(some 11), none, .bin .gtr (.t 10) (.c (.int .i64 8))⟩])
  (.cond (.t 11) (.seq (.region [⟨(some 12), none, .call 15 []⟩,
    ⟨(some 2), none, .mov (.t 12)⟩])
  (.ret))
  (.skip)))
  (.seq (.region [⟨(some 3), none, .mov (.c (.sl [] .tight))⟩])
  (.seq (.seq (.region [⟨(some 4), none, .mov (.c (.int .i64 0))⟩])
  (.block 0 (.loop (.seq (.seq (.region [⟨(some 13), none, .mov (.t 4)⟩,
    ⟨(some 14), none, .mov (.t 0)⟩,
    ⟨(some 15), none, .len (.t 14)⟩,
    ⟨(some 16), none, .bin .lss (.t 13) (.t 15)⟩])
  (.cond (.t 16) (.skip)
  (.exit 0)))
  (.seq (.block 1 (.seq (.seq (.region [⟨(some 19), none, .mov (.t 0)⟩,
    ⟨(some 20), none, .mov (.t 4)⟩,
    ⟨(some 21), none, .idx (.t 19) (.t 20) 2⟩,
    ⟨(some 22), none, .load (.t 21) (some 2)⟩,
    ⟨(some 23), none, .call 14 [(.t 22)]⟩])
  (.cond (.t 23) (.seq (.region [⟨(some 24), none, .call 15 []⟩,
    ⟨(some 2), none, .mov (.t 24)⟩])
  (.ret))
  (.skip)))
  (.region [⟨(some 25), none, .mov (.t 3)⟩,
    ⟨(some 26), none, .mov (.t 0)⟩,
    ⟨(some 27), none, .mov (.t 4)⟩,
    ⟨(some 28), none, .idx (.t 26) (.t 27) 2⟩,
    ⟨(some 29), none, .load (.t 28) (some 2)⟩,
    ⟨(some 30), none, .callf 16 [(.t 29)]⟩,
    ⟨(some 31), none, .lit false 24 2 [(.t 30)]⟩,
    ⟨(some 32), none, .app false (.t 25) (.t 31) 24 2 32⟩,
    ⟨(some 3), none, .mov (.t 32)⟩])))
  (.region [⟨(some 17), none, .mov (.t 4)⟩,
    ⟨(some 18), none, .bin .add (.t 17) (.c (.int .i64 1))⟩,
    ⟨(some 4), none, .mov (.t 18)⟩]))))))
  (.seq (.region [⟨(some 34), none, .mov (.t 3)⟩,
    ⟨(some 35), none, .call 37 [(.t 34)]⟩,
    ⟨(some 33), none, .mov (.t 35)⟩,
    ⟨(some 36), none, .ext (.t 33) 0⟩,
    ⟨(some 37), none, .ext (.t 33) 1⟩,
    ⟨(some 5), none, .mov (.t 36)⟩,
    ⟨(some 6), none, .mov (.t 37)⟩])
  (.seq (.region [⟨(some 39), none, .mov (.t 0)⟩,
    ⟨(some 40), none, .call 38 [(.t 39)]⟩,
    ⟨(some 38), none, .mov (.t 40)⟩,
    ⟨(some 41), none, .ext (.t 38) 0⟩,
    ⟨(some 42), none, .ext (.t 38) 1⟩,
    ⟨(some 7), none, .mov (.t 41)⟩,
    ⟨(some 8), none, .mov (.t 42)⟩])
  (.seq (.region [⟨(some 43), none, .mov (.t 5)⟩,
    ⟨(some 44), none, .mov (.t 7)⟩,
    ⟨(some 45), none, .call 39 [(.t 43), (.t 44)]⟩,
    ⟨(some 46), none, .mov (.t 45)⟩,
    ⟨(some 47), some (46, true), .mov (.t 6)⟩,
    ⟨(some 48), some (46, true), .mov (.t 8)⟩,
    ⟨(some 49), some (46, true), .bin .eql (.t 47) (.t 48)⟩,
    ⟨(some 50), none, .pick (.t 46) (.t 49) (.c (.bool false))⟩,
    ⟨(some 51), none, .mov (.t 50)⟩,
    ⟨(some 52), some (51, true), .call 15 []⟩,
    ⟨(some 53), none, .pick (.t 51) (.t 52) (.c (.bool false))⟩,
    ⟨(some 2), none, .mov (.t 53)⟩])
  (.ret)))))))
def r6 : List Res := [.t 2]
def a6 : AFn := ⟨1, c6, r6, .v⟩

/-- bijou/bijoulaw01.ReelTrue -/
def c7 : ACode := .seq (.region [⟨(some 2), none, .box (.t 0) 2⟩,
    ⟨(some 4), none, .mov (.c (.bool false))⟩])
  (.seq (.seq (.region [⟨(some 19), none, .load (.t 2) (some 2)⟩,
    ⟨(some 20), none, .call 40 [(.t 19)]⟩,
    ⟨(some 21), none, .not (.t 20)⟩,
    ⟨(some 22), none, .mov (.t 21)⟩,
    ⟨(some 23), some (22, false), .mov (.t 1)⟩,
    ⟨(some 24), some (22, false), .len (.t 23)⟩,
    ⟨(some 25), some (22, false), .bin .gtr (.t 24) (.c (.int .i64 20))⟩,
    ⟨(some 26), none, .pick (.t 22) (.c (.bool true)) (.t 25)⟩])
  (.cond (.t 26) (.seq (.region [⟨(some 27), none, .call 15 []⟩,
    ⟨(some 4), none, .mov (.t 27)⟩])
  (.ret))
  (.skip)))
  (.seq (.region [⟨(some 29), none, .load (.t 2) (some 2)⟩,
    ⟨(some 30), none, .mov (.t 1)⟩,
    ⟨(some 31), none, .call 41 [(.t 29), (.t 30)]⟩,
    ⟨(some 28), none, .mov (.t 31)⟩,
    ⟨(some 32), none, .ext (.t 28) 0⟩,
    ⟨(some 33), none, .ext (.t 28) 1⟩,
    ⟨(some 5), none, .mov (.t 32)⟩,
    ⟨(some 6), none, .mov (.t 33)⟩])
  (.seq (.seq (.region [⟨(some 34), none, .mov (.t 6)⟩,
    ⟨(some 35), none, .not (.t 34)⟩])
  (.cond (.t 35) (.seq (.region [⟨(some 36), none, .call 15 []⟩,
    ⟨(some 4), none, .mov (.t 36)⟩])
  (.ret))
  (.skip)))
  (.seq (.region [⟨(some 38), none, .load (.t 2) (some 2)⟩,
    ⟨(some 39), none, .call 23 [(.t 38)]⟩,
    ⟨(some 37), none, .mov (.t 39)⟩,
    ⟨(some 40), none, .ext (.t 37) 0⟩,
    ⟨(some 41), none, .ext (.t 37) 1⟩,
    ⟨(some 7), none, .new (.agg [(.int .i64 0), (.int .i64 0)]) 2⟩,
    ⟨none, none, .store (.t 7) (.t 40) 2⟩,
    ⟨(some 8), none, .mov (.t 41)⟩])
  (.seq (.region [⟨(some 43), none, .load (.t 2) (some 2)⟩,
    ⟨(some 44), none, .call 25 [(.t 43)]⟩,
    ⟨(some 42), none, .mov (.t 44)⟩,
    ⟨(some 45), none, .ext (.t 42) 0⟩,
    ⟨(some 46), none, .ext (.t 42) 1⟩,
    ⟨(some 9), none, .new (.agg [(.int .i64 0), (.int .i64 0)]) 2⟩,
    ⟨none, none, .store (.t 9) (.t 45) 2⟩,
    ⟨(some 10), none, .mov (.t 46)⟩])
  (.seq (.region [⟨(some 48), none, .load (.t 2) (some 2)⟩,
    ⟨(some 49), none, .call 27 [(.t 48)]⟩,
    ⟨(some 47), none, .mov (.t 49)⟩,
    ⟨(some 50), none, .ext (.t 47) 0⟩,
    ⟨(some 51), none, .ext (.t 47) 1⟩,
    ⟨(some 11), none, .new (.agg [(.int .i64 0), (.int .i64 0)]) 2⟩,
    ⟨none, none, .store (.t 11) (.t 50) 2⟩,
    ⟨(some 12), none, .mov (.t 51)⟩])
  (.seq (.region [⟨(some 53), none, .load (.t 2) (some 2)⟩,
    ⟨(some 54), none, .call 19 [(.t 53)]⟩,
    ⟨(some 52), none, .mov (.t 54)⟩,
    ⟨(some 55), none, .ext (.t 52) 0⟩,
    ⟨(some 56), none, .ext (.t 52) 1⟩,
    ⟨(some 13), none, .mov (.t 55)⟩,
    ⟨(some 14), none, .mov (.t 56)⟩])
  (.seq (.seq (.region [⟨(some 57), none, .mov (.t 8)⟩,
    ⟨(some 58), none, .bin .neq (.t 57) (.c (.int .i64 0))⟩,
    ⟨(some 59), none, .mov (.t 58)⟩,
    ⟨(some 60), some (59, false), .mov (.t 10)⟩,
    ⟨(some 61), some (59, false), .bin .neq (.t 60) (.c (.int .i64 0))⟩,
    ⟨(some 62), none, .pick (.t 59) (.c (.bool true)) (.t 61)⟩,
    ⟨(some 63), none, .mov (.t 62)⟩,
    ⟨(some 64), some (63, false), .mov (.t 12)⟩,
    ⟨(some 65), some (63, false), .bin .neq (.t 64) (.c (.int .i64 0))⟩,
    ⟨(some 66), none, .pick (.t 63) (.c (.bool true)) (.t 65)⟩,
    ⟨(some 67), none, .mov (.t 66)⟩,
    ⟨(some 68), some (67, false), .mov (.t 14)⟩,
    ⟨(some 69), some (67, false), .bin .neq (.t 68) (.c (.int .i64 0))⟩,
    ⟨(some 70), none, .pick (.t 67) (.c (.bool true)) (.t 69)⟩,
    ⟨(some 71), none, .mov (.t 70)⟩,
    ⟨(some 72), some (71, false), .mov (.t 13)⟩,
    ⟨(some 73), some (71, false), .bin .neq (.t 72) (.c (.int .i64 0))⟩,
    ⟨(some 74), none, .pick (.t 71) (.c (.bool true)) (.t 73)⟩])
  (.cond (.t 74) (.seq (.region [⟨(some 4), none, .mov (.c (.bool false))⟩])
  (.ret))
  (.skip)))
  (.seq (.seq (.region [⟨(some 15), none, .mov (.c (.int .i64 0))⟩])
  (.block 0 (.loop (.seq (.seq (.region [⟨(some 75), none, .mov (.t 15)⟩,
    ⟨(some 76), none, .addr (.t 2) 0⟩,
    ⟨(some 77), none, .load (.t 76) none⟩,
    ⟨(some 78), none, .bin .lss (.t 75) (.t 77)⟩])
  (.cond (.t 78) (.skip)
  (.exit 0)))
  (.seq (.block 1 (.seq (.region [⟨(some 82), none, .load (.t 2) (some 2)⟩,
    ⟨(some 83), none, .mov (.t 15)⟩,
    ⟨(some 84), none, .call 29 [(.t 82), (.t 83)]⟩,
    ⟨(some 81), none, .mov (.t 84)⟩,
    ⟨(some 85), none, .ext (.t 81) 0⟩,
    ⟨(some 86), none, .ext (.t 81) 1⟩,
    ⟨(some 16), none, .mov (.t 85)⟩,
    ⟨(some 17), none, .mov (.t 86)⟩])
  (.seq (.region [⟨(some 18), none, .mov (.c (.int .i64 2))⟩])
  (.seq (.seq (.region [⟨(some 87), none, .mov (.t 5)⟩,
    ⟨(some 88), none, .mov (.t 15)⟩,
    ⟨(some 89), none, .mov (.t 15)⟩,
    ⟨(some 90), none, .call 42 [(.t 87), (.t 88), (.t 89)]⟩,
    ⟨(some 91), none, .bin .eql (.t 90) (.c (.int .i64 0))⟩])
  (.cond (.t 91) (.region [⟨(some 18), none, .mov (.c (.int .i64 1))⟩])
  (.skip)))
  (.seq (.region [⟨(some 92), none, .mov (.t 17)⟩,
    ⟨(some 93), none, .bin .neq (.t 92) (.c (.int .i64 0))⟩,
    ⟨(some 94), none, .mov (.t 93)⟩,
    ⟨(some 95), some (94, false), .mov (.t 16)⟩,
    ⟨(some 96), some (94, false), .mov (.t 18)⟩,
    ⟨(some 97), some (94, false), .bin .eql (.t 95) (.t 96)⟩,
    ⟨(some 98), none, .pick (.t 94) (.c (.bool true)) (.t 97)⟩])
  (.cond (.t 98) (.seq (.region [⟨(some 4), none, .mov (.c (.bool false))⟩])
  (.ret))
  (.skip)))))))
  (.region [⟨(some 79), none, .mov (.t 15)⟩,
    ⟨(some 80), none, .bin .add (.t 79) (.c (.int .i64 1))⟩,
    ⟨(some 15), none, .mov (.t 80)⟩]))))))
  (.seq (.region [⟨(some 99), none, .mov (.t 5)⟩,
    ⟨(some 100), none, .addr (.t 2) 0⟩,
    ⟨(some 101), none, .load (.t 100) none⟩,
    ⟨(some 102), none, .bin .sub (.t 101) (.c (.int .i64 1))⟩,
    ⟨(some 103), none, .call 42 [(.t 99), (.c (.int .i64 0)), (.t 102)]⟩,
    ⟨(some 104), none, .load (.t 7) (some 2)⟩,
    ⟨(some 105), none, .call 43 [(.t 103), (.t 104)]⟩,
    ⟨(some 106), none, .mov (.t 105)⟩,
    ⟨(some 107), some (106, true), .mov (.t 5)⟩,
    ⟨(some 108), some (106, true), .addr (.t 2) 0⟩,
    ⟨(some 109), some (106, true), .load (.t 108) none⟩,
    ⟨(some 110), some (106, true), .call 44 [(.t 107), (.t 109)]⟩,
    ⟨(some 111), some (106, true), .load (.t 9) (some 2)⟩,
    ⟨(some 112), some (106, true), .call 43 [(.t 110), (.t 111)]⟩,
    ⟨(some 113), none, .pick (.t 106) (.t 112) (.c (.bool false))⟩,
    ⟨(some 114), none, .mov (.t 113)⟩,
    ⟨(some 115), some (114, true), .mov (.t 5)⟩,
    ⟨(some 116), some (114, true), .addr (.t 2) 0⟩,
    ⟨(some 117), some (114, true), .load (.t 116) none⟩,
    ⟨(some 118), some (114, true), .call 45 [(.t 115), (.t 117)]⟩,
    ⟨(some 119), some (114, true), .load (.t 11) (some 2)⟩,
    ⟨(some 120), some (114, true), .call 43 [(.t 118), (.t 119)]⟩,
    ⟨(some 121), none, .pick (.t 114) (.t 120) (.c (.bool false))⟩,
    ⟨(some 122), none, .mov (.t 121)⟩,
    ⟨(some 123), some (122, true), .call 15 []⟩,
    ⟨(some 124), none, .pick (.t 122) (.t 123) (.c (.bool false))⟩,
    ⟨(some 4), none, .mov (.t 124)⟩])
  (.ret)))))))))))
def r7 : List Res := [.t 4]
def a7 : AFn := ⟨2, c7, r7, .v⟩

/-- bijou/bijoulaw01.ReelMore -/
def c8 : ACode := .seq (.region [⟨(some 3), none, .box (.t 0) 2⟩,
    ⟨(some 4), none, .box (.t 1) 5⟩,
    ⟨(some 6), none, .mov (.c (.bool false))⟩])
  (.seq (.seq (.region [⟨(some 23), none, .load (.t 3) (some 2)⟩,
    ⟨(some 24), none, .call 40 [(.t 23)]⟩,
    ⟨(some 25), none, .not (.t 24)⟩,
    ⟨(some 26), none, .mov (.t 25)⟩,
    ⟨(some 27), some (26, false), .addr (.t 3) 1⟩,
    ⟨(some 28), some (26, false), .load (.t 27) none⟩,
    ⟨(some 29), some (26, false), .len (.t 28)⟩,
    ⟨(some 30), some (26, false), .bin .geq (.t 29) (.c (.int .i64 10))⟩,
    ⟨(some 31), none, .pick (.t 26) (.c (.bool true)) (.t 30)⟩,
    ⟨(some 32), none, .mov (.t 31)⟩,
    ⟨(some 33), some (32, false), .addr (.t 4) 0⟩,
    ⟨(some 34), some (32, false), .load (.t 33) none⟩,
    ⟨(some 35), some (32, false), .bin .eql (.t 34) (.c (.int .i64 1))⟩,
    ⟨(some 36), none, .pick (.t 32) (.c (.bool true)) (.t 35)⟩,
    ⟨(some 37), none, .mov (.t 36)⟩,
    ⟨(some 38), some (37, false), .mov (.t 2)⟩,
    ⟨(some 39), some (37, false), .bin .lss (.t 38) (.c (.int .i64 0))⟩,
    ⟨(some 40), none, .pick (.t 37) (.c (.bool true)) (.t 39)⟩,
    ⟨(some 41), none, .mov (.t 40)⟩,
    ⟨(some 42), some (41, false), .mov (.t 2)⟩,
    ⟨(some 43), some (41, false), .addr (.t 3) 0⟩,
    ⟨(some 44), some (41, false), .load (.t 43) none⟩,
    ⟨(some 45), some (41, false), .bin .geq (.t 42) (.t 44)⟩,
    ⟨(some 46), none, .pick (.t 41) (.c (.bool true)) (.t 45)⟩])
  (.cond (.t 46) (.seq (.region [⟨(some 47), none, .call 15 []⟩,
    ⟨(some 6), none, .mov (.t 47)⟩])
  (.ret))
  (.skip)))
  (.seq (.region [⟨(some 48), none, .load (.t 3) (some 2)⟩,
    ⟨(some 49), none, .load (.t 4) (some 5)⟩,
    ⟨(some 50), none, .call 46 [(.t 48), (.t 49)]⟩,
    ⟨(some 7), none, .new (.agg [(.int .i64 0), (.sl [] .tight)]) 2⟩,
    ⟨none, none, .store (.t 7) (.t 50) 2⟩])
  (.seq (.seq (.region [⟨(some 51), none, .load (.t 7) (some 2)⟩,
    ⟨(some 52), none, .call 40 [(.t 51)]⟩,
    ⟨(some 53), none, .not (.t 52)⟩])
  (.cond (.t 53) (.seq (.region [⟨(some 54), none, .call 15 []⟩,
    ⟨(some 6), none, .mov (.t 54)⟩])
  (.ret))
  (.skip)))
  (.seq (.region [⟨(some 56), none, .load (.t 3) (some 2)⟩,
    ⟨(some 57), none, .call 17 [(.t 56)]⟩,
    ⟨(some 55), none, .mov (.t 57)⟩,
    ⟨(some 58), none, .ext (.t 55) 0⟩,
    ⟨(some 59), none, .ext (.t 55) 1⟩,
    ⟨(some 8), none, .mov (.t 58)⟩,
    ⟨(some 9), none, .mov (.t 59)⟩])
  (.seq (.region [⟨(some 61), none, .load (.t 7) (some 2)⟩,
    ⟨(some 62), none, .call 17 [(.t 61)]⟩,
    ⟨(some 60), none, .mov (.t 62)⟩,
    ⟨(some 63), none, .ext (.t 60) 0⟩,
    ⟨(some 64), none, .ext (.t 60) 1⟩,
    ⟨(some 10), none, .mov (.t 63)⟩,
    ⟨(some 11), none, .mov (.t 64)⟩])
  (.seq (.seq (.region [⟨(some 65), none, .mov (.t 9)⟩,
    ⟨(some 66), none, .bin .neq (.t 65) (.c (.int .i64 0))⟩,
    ⟨(some 67), none, .mov (.t 66)⟩,
    ⟨(some 68), some (67, false), .mov (.t 11)⟩,
    ⟨(some 69), some (67, false), .bin .neq (.t 68) (.c (.int .i64 0))⟩,
    ⟨(some 70), none, .pick (.t 67) (.c (.bool true)) (.t 69)⟩,
    ⟨(some 71), none, .mov (.t 70)⟩,
    ⟨(some 72), some (71, false), .mov (.t 10)⟩,
    ⟨(some 73), some (71, false), .mov (.t 8)⟩,
    ⟨(some 74), some (71, false), .bin .gtr (.t 72) (.t 73)⟩,
    ⟨(some 75), none, .pick (.t 71) (.c (.bool true)) (.t 74)⟩,
    ⟨(some 76), none, .mov (.t 75)⟩,
    ⟨(some 77), some (76, false), .mov (.t 10)⟩,
    ⟨(some 78), some (76, false), .bin .lss (.t 77) (.c (.int .i64 0))⟩,
    ⟨(some 79), none, .pick (.t 76) (.c (.bool true)) (.t 78)⟩])
  (.cond (.t 79) (.seq (.region [⟨(some 6), none, .mov (.c (.bool false))⟩])
  (.ret))
  (.skip)))
  (.seq (.seq (.region [⟨(some 80), none, .mov (.t 10)⟩,
    ⟨(some 81), none, .bin .eql (.t 80) (.c (.int .i64 0))⟩])
  (.cond (.t 81) (.seq (.region [⟨(some 83), none, .load (.t 7) (some 2)⟩,
    ⟨(some 84), none, .call 47 [(.t 83)]⟩,
    ⟨(some 82), none, .mov (.t 84)⟩,
    ⟨(some 85), none, .ext (.t 82) 0⟩,
    ⟨(some 86), none, .ext (.t 82) 1⟩,
    ⟨(some 12), none, .mov (.t 85)⟩,
    ⟨(some 13), none, .mov (.t 86)⟩])
  (.seq (.region [⟨(some 87), none, .mov (.t 13)⟩,
    ⟨(some 88), none, .not (.t 87)⟩,
    ⟨(some 89), none, .mov (.t 88)⟩,
    ⟨(some 90), some (89, true), .call 15 []⟩,
    ⟨(some 91), none, .pick (.t 89) (.t 90) (.c (.bool false))⟩,
    ⟨(some 6), none, .mov (.t 91)⟩])
  (.ret)))
  (.skip)))
  (.seq (.region [⟨(some 93), none, .load (.t 3) (some 2)⟩,
    ⟨(some 94), none, .call 47 [(.t 93)]⟩,
    ⟨(some 92), none, .mov (.t 94)⟩,
    ⟨(some 95), none, .ext (.t 92) 0⟩,
    ⟨(some 96), none, .ext (.t 92) 1⟩,
    ⟨(some 14), none, .mov (.t 95)⟩,
    ⟨(some 15), none, .mov (.t 96)⟩])
  (.seq (.region [⟨(some 98), none, .load (.t 7) (some 2)⟩,
    ⟨(some 99), none, .call 47 [(.t 98)]⟩,
    ⟨(some 97), none, .mov (.t 99)⟩,
    ⟨(some 100), none, .ext (.t 97) 0⟩,
    ⟨(some 101), none, .ext (.t 97) 1⟩,
    ⟨(some 16), none, .mov (.t 100)⟩,
    ⟨(some 17), none, .mov (.t 101)⟩])
  (.seq (.seq (.region [⟨(some 102), none, .mov (.t 15)⟩,
    ⟨(some 103), none, .not (.t 102)⟩,
    ⟨(some 104), none, .mov (.t 103)⟩,
    ⟨(some 105), some (104, false), .mov (.t 17)⟩,
    ⟨(some 106), some (104, false), .not (.t 105)⟩,
    ⟨(some 107), none, .pick (.t 104) (.c (.bool true)) (.t 106)⟩])
  (.cond (.t 107) (.seq (.region [⟨(some 6), none, .mov (.c (.bool false))⟩])
  (.ret))
  (.skip)))
  (.seq (.seq (.region [⟨(some 18), none, .mov (.c (.int .i64 0))⟩])
  (.block 0 (.loop (.seq (.seq (.region [⟨(some 108), none, .mov (.t 18)⟩,
    ⟨(some 109), none, .mov (.t 16)⟩,
    ⟨(some 110), none, .len (.t 109)⟩,
    ⟨(some 111), none, .bin .lss (.t 108) (.t 110)⟩])
  (.cond (.t 111) (.skip)
  (.exit 0)))
  (.seq (.block 1 (.seq (.region [⟨(some 114), none, .mov (.t 16)⟩,
    ⟨(some 115), none, .mov (.t 18)⟩,
    ⟨(some 116), none, .idx (.t 114) (.t 115) 2⟩,
    ⟨(some 117), none, .load (.t 116) (some 2)⟩,
    ⟨(some 118), none, .mov (.t 14)⟩,
    ⟨(some 119), none, .mov (.t 18)⟩,
    ⟨(some 120), none, .idx (.t 118) (.t 119) 2⟩,
    ⟨(some 121), none, .load (.t 120) (some 2)⟩,
    ⟨(some 122), none, .call 48 [(.t 117), (.t 121)]⟩,
    ⟨(some 123), none, .not (.t 122)⟩])
  (.cond (.t 123) (.seq (.region [⟨(some 6), none, .mov (.c (.bool false))⟩])
  (.ret))
  (.skip))))
  (.region [⟨(some 112), none, .mov (.t 18)⟩,
    ⟨(some 113), none, .bin .add (.t 112) (.c (.int .i64 1))⟩,
    ⟨(some 18), none, .mov (.t 113)⟩]))))))
  (.seq (.region [⟨(some 125), none, .load (.t 3) (some 2)⟩,
    ⟨(some 126), none, .mov (.t 2)⟩,
    ⟨(some 127), none, .call 29 [(.t 125), (.t 126)]⟩,
    ⟨(some 124), none, .mov (.t 127)⟩,
    ⟨(some 128), none, .ext (.t 124) 0⟩,
    ⟨(some 129), none, .ext (.t 124) 1⟩,
    ⟨(some 19), none, .mov (.t 128)⟩,
    ⟨(some 20), none, .mov (.t 129)⟩])
  (.seq (.region [⟨(some 131), none, .load (.t 7) (some 2)⟩,
    ⟨(some 132), none, .mov (.t 2)⟩,
    ⟨(some 133), none, .call 29 [(.t 131), (.t 132)]⟩,
    ⟨(some 130), none, .mov (.t 133)⟩,
    ⟨(some 134), none, .ext (.t 130) 0⟩,
    ⟨(some 135), none, .ext (.t 130) 1⟩,
    ⟨(some 21), none, .mov (.t 134)⟩,
    ⟨(some 22), none, .mov (.t 135)⟩])
  (.seq (.region [⟨(some 136), none, .mov (.t 20)⟩,
    ⟨(some 137), none, .bin .eql (.t 136) (.c (.int .i64 0))⟩,
    ⟨(some 138), none, .mov (.t 137)⟩,
    ⟨(some 139), some (138, true), .mov (.t 22)⟩,
    ⟨(some 140), some (138, true), .bin .eql (.t 139) (.c (.int .i64 0))⟩,
    ⟨(some 141), none, .pick (.t 138) (.t 140) (.c (.bool false))⟩,
    ⟨(some 142), none, .mov (.t 141)⟩,
    ⟨(some 143), some (142, true), .mov (.t 19)⟩,
    ⟨(some 144), some (142, true), .bin .eql (.t 143) (.c (.int .i64 3))⟩,
    ⟨(some 145), some (142, true), .mov (.t 144)⟩,
    ⟨(some 146), some (145, false), .mov (.t 19)⟩,
    ⟨(some 147), some (145, false), .mov (.t 21)⟩,
    ⟨(some 148), some (145, false), .bin .eql (.t 146) (.t 147)⟩,
    ⟨(some 149), some (142, true), .pick (.t 145) (.c (.bool true)) (.t 148)⟩,
    ⟨(some 150), none, .pick (.t 142) (.t 149) (.c (.bool false))⟩,
    ⟨(some 151), none, .mov (.t 150)⟩,
    ⟨(some 152), some (151, true), .call 15 []⟩,
    ⟨(some 153), none, .pick (.t 151) (.t 152) (.c (.bool false))⟩,
    ⟨(some 6), none, .mov (.t 153)⟩])
  (.ret)))))))))))))))
def r8 : List Res := [.t 6]
def a8 : AFn := ⟨3, c8, r8, .v⟩

/-- bijou/bijoulaw01.ReelOrder -/
def c9 : ACode := .seq (.region [⟨(some 2), none, .box (.t 0) 2⟩,
    ⟨(some 3), none, .box (.t 1) 2⟩,
    ⟨(some 4), none, .mov (.c (.bool false))⟩])
  (.seq (.seq (.region [⟨(some 8), none, .load (.t 2) (some 2)⟩,
    ⟨(some 9), none, .call 40 [(.t 8)]⟩,
    ⟨(some 10), none, .not (.t 9)⟩,
    ⟨(some 11), none, .mov (.t 10)⟩,
    ⟨(some 12), some (11, false), .addr (.t 3) 0⟩,
    ⟨(some 13), some (11, false), .load (.t 12) none⟩,
    ⟨(some 14), some (11, false), .len (.t 13)⟩,
    ⟨(some 15), some (11, false), .bin .gtr (.t 14) (.c (.int .i64 40))⟩,
    ⟨(some 16), none, .pick (.t 11) (.c (.bool true)) (.t 15)⟩,
    ⟨(some 17), none, .mov (.t 16)⟩,
    ⟨(some 18), some (17, false), .addr (.t 3) 1⟩,
    ⟨(some 19), some (17, false), .load (.t 18) none⟩,
    ⟨(some 20), some (17, false), .bin .lss (.t 19) (.c (.int .i64 0))⟩,
    ⟨(some 21), none, .pick (.t 17) (.c (.bool true)) (.t 20)⟩,
    ⟨(some 22), none, .mov (.t 21)⟩,
    ⟨(some 23), some (22, false), .addr (.t 3) 1⟩,
    ⟨(some 24), some (22, false), .load (.t 23) none⟩,
    ⟨(some 25), some (22, false), .addr (.t 2) 0⟩,
    ⟨(some 26), some (22, false), .load (.t 25) none⟩,
    ⟨(some 27), some (22, false), .bin .geq (.t 24) (.t 26)⟩,
    ⟨(some 28), none, .pick (.t 22) (.c (.bool true)) (.t 27)⟩])
  (.cond (.t 28) (.seq (.region [⟨(some 29), none, .call 15 []⟩,
    ⟨(some 4), none, .mov (.t 29)⟩])
  (.ret))
  (.skip)))
  (.seq (.region [⟨(some 30), none, .load (.t 2) (some 2)⟩,
    ⟨(some 31), none, .call 16 [(.t 30)]⟩,
    ⟨(some 5), none, .new (.agg [(.int .i64 0), (.sl [] .tight)]) 2⟩,
    ⟨none, none, .store (.t 5) (.t 31) 2⟩])
  (.seq (.seq (.region [⟨(some 6), none, .mov (.c (.int .i64 0))⟩])
  (.block 0 (.loop (.seq (.seq (.region [⟨(some 32), none, .mov (.t 6)⟩,
    ⟨(some 33), none, .addr (.t 5) 1⟩,
    ⟨(some 34), none, .load (.t 33) none⟩,
    ⟨(some 35), none, .len (.t 34)⟩,
    ⟨(some 36), none, .bin .lss (.t 32) (.t 35)⟩,
    ⟨(some 37), none, .mov (.t 36)⟩,
    ⟨(some 38), some (37, true), .mov (.t 6)⟩,
    ⟨(some 39), some (37, true), .addr (.t 3) 0⟩,
    ⟨(some 40), some (37, true), .load (.t 39) none⟩,
    ⟨(some 41), some (37, true), .len (.t 40)⟩,
    ⟨(some 42), some (37, true), .bin .lss (.t 38) (.t 41)⟩,
    ⟨(some 43), none, .pick (.t 37) (.t 42) (.c (.bool false))⟩])
  (.cond (.t 43) (.skip)
  (.exit 0)))
  (.seq (.block 1 (.seq (.region [⟨(some 46), none, .mov (.t 6)⟩,
    ⟨(some 7), none, .mov (.t 46)⟩])
  (.block 2 (.loop (.seq (.seq (.region [⟨(some 47), none, .mov (.t 7)⟩,
    ⟨(some 48), none, .bin .gtr (.t 47) (.c (.int .i64 0))⟩,
    ⟨(some 49), none, .mov (.t 48)⟩,
    ⟨(some 50), some (49, true), .mov (.t 7)⟩,
    ⟨(some 51), some (49, true), .mov (.t 6)⟩,
    ⟨(some 52), some (49, true), .addr (.t 3) 0⟩,
    ⟨(some 53), some (49, true), .load (.t 52) none⟩,
    ⟨(some 54), some (49, true), .mov (.t 6)⟩,
    ⟨(some 55), some (49, true), .idx (.t 53) (.t 54) 1⟩,
    ⟨(some 56), some (49, true), .load (.t 55) none⟩,
    ⟨(some 57), some (49, true), .bin .sub (.t 51) (.t 56)⟩,
    ⟨(some 58), some (49, true), .bin .gtr (.t 50) (.t 57)⟩,
    ⟨(some 59), none, .pick (.t 49) (.t 58) (.c (.bool false))⟩])
  (.cond (.t 59) (.skip)
  (.exit 2)))
  (.seq (.block 3 (.regionD [⟨(some 62), none, .addr (.t 5) 1⟩,
    ⟨(some 63), none, .load (.t 62) none⟩,
    ⟨(some 64), none, .mov (.t 7)⟩,
    ⟨(some 65), none, .addr (.t 5) 1⟩,
    ⟨(some 66), none, .load (.t 65) none⟩,
    ⟨(some 67), none, .mov (.t 7)⟩,
    ⟨(some 68), none, .bin .sub (.t 67) (.c (.int .i64 1))⟩,
    ⟨(some 69), none, .addr (.t 5) 1⟩,
    ⟨(some 70), none, .load (.t 69) none⟩,
    ⟨(some 71), none, .mov (.t 7)⟩,
    ⟨(some 72), none, .bin .sub (.t 71) (.c (.int .i64 1))⟩,
    ⟨(some 73), none, .idx (.t 70) (.t 72) 5⟩,
    ⟨(some 74), none, .load (.t 73) (some 5)⟩,
    ⟨(some 75), none, .addr (.t 5) 1⟩,
    ⟨(some 76), none, .load (.t 75) none⟩,
    ⟨(some 77), none, .mov (.t 7)⟩,
    ⟨(some 78), none, .idx (.t 76) (.t 77) 5⟩,
    ⟨(some 79), none, .load (.t 78) (some 5)⟩,
    ⟨(some 80), none, .idx (.t 63) (.t 64) 5⟩,
    ⟨none, none, .store (.t 80) (.t 74) 5⟩,
    ⟨(some 81), none, .idx (.t 66) (.t 68) 5⟩,
    ⟨none, none, .store (.t 81) (.t 79) 5⟩] [(65, 80)]))
  (.region [⟨(some 60), none, .mov (.t 7)⟩,
    ⟨(some 61), none, .bin .sub (.t 60) (.c (.int .i64 1))⟩,
    ⟨(some 7), none, .mov (.t 61)⟩])))))))
  (.region [⟨(some 44), none, .mov (.t 6)⟩,
    ⟨(some 45), none, .bin .add (.t 44) (.c (.int .i64 1))⟩,
    ⟨(some 6), none, .mov (.t 45)⟩]))))))
  (.seq (.region [⟨(some 82), none, .load (.t 2) (some 2)⟩,
    ⟨(some 83), none, .load (.t 5) (some 2)⟩,
    ⟨(some 84), none, .addr (.t 3) 1⟩,
    ⟨(some 85), none, .load (.t 84) none⟩,
    ⟨(some 86), none, .addr (.t 3) 1⟩,
    ⟨(some 87), none, .load (.t 86) none⟩,
    ⟨(some 88), none, .call 49 [(.t 82), (.t 83), (.t 85), (.t 87)]⟩,
    ⟨(some 89), none, .mov (.t 88)⟩,
    ⟨(some 90), some (89, true), .call 15 []⟩,
    ⟨(some 91), none, .pick (.t 89) (.t 90) (.c (.bool false))⟩,
    ⟨(some 4), none, .mov (.t 91)⟩])
  (.ret)))))
def r9 : List Res := [.t 4]
def a9 : AFn := ⟨2, c9, r9, .v⟩

/-- bijou/bijoulaw01.ReelBack -/
def c10 : ACode := .seq (.region [⟨(some 2), none, .box (.t 0) 2⟩,
    ⟨(some 4), none, .mov (.c (.bool false))⟩])
  (.seq (.seq (.region [⟨(some 8), none, .load (.t 2) (some 2)⟩,
    ⟨(some 9), none, .call 40 [(.t 8)]⟩,
    ⟨(some 10), none, .not (.t 9)⟩,
    ⟨(some 11), none, .mov (.t 10)⟩,
    ⟨(some 12), some (11, false), .mov (.t 1)⟩,
    ⟨(some 13), some (11, false), .bin .lss (.t 12) (.c (.int .i64 0))⟩,
    ⟨(some 14), none, .pick (.t 11) (.c (.bool true)) (.t 13)⟩,
    ⟨(some 15), none, .mov (.t 14)⟩,
    ⟨(some 16), some (15, false), .mov (.t 1)⟩,
    ⟨(some 17), some (15, false), .addr (.t 2) 0⟩,
    ⟨(some 18), some (15, false), .load (.t 17) none⟩,
    ⟨(some 19), some (15, false), .bin .geq (.t 16) (.t 18)⟩,
    ⟨(some 20), none, .pick (.t 15) (.c (.bool true)) (.t 19)⟩])
  (.cond (.t 20) (.seq (.region [⟨(some 21), none, .call 15 []⟩,
    ⟨(some 4), none, .mov (.t 21)⟩])
  (.ret))
  (.skip)))
  (.seq (.region [⟨(some 22), none, .load (.t 2) (some 2)⟩,
    ⟨(some 23), none, .call 16 [(.t 22)]⟩,
    ⟨(some 5), none, .new (.agg [(.int .i64 0), (.sl [] .tight)]) 2⟩,
    ⟨none, none, .store (.t 5) (.t 23) 2⟩])
  (.seq (.seq (.region [⟨(some 6), none, .mov (.c (.int .i64 0))⟩])
  (.block 0 (.loop (.seq (.seq (.region [⟨(some 24), none, .mov (.t 6)⟩,
    ⟨(some 25), none, .addr (.t 5) 1⟩,
    ⟨(some 26), none, .load (.t 25) none⟩,
    ⟨(some 27), none, .len (.t 26)⟩,
    ⟨(some 28), none, .bin .lss (.t 24) (.t 27)⟩])
  (.cond (.t 28) (.skip)
  (.exit 0)))
  (.seq (.block 1 (.seq (.region [⟨(some 31), none, .addr (.t 5) 1⟩,
    ⟨(some 32), none, .load (.t 31) none⟩,
    ⟨(some 33), none, .mov (.t 6)⟩,
    ⟨(some 34), none, .idx (.t 32) (.t 33) 5⟩,
    ⟨(some 35), none, .load (.t 34) (some 5)⟩,
    ⟨(some 7), none, .new (.agg [(.int .i64 0), (.int .i64 0), (.int .i64 0), (.int .i64 0), (.int .i64 0)]) 5⟩,
    ⟨none, none, .store (.t 7) (.t 35) 5⟩])
  (.seq (.region [⟨(some 36), none, .addr (.t 7) 0⟩,
    ⟨(some 37), none, .load (.t 36) none⟩,
    ⟨(some 38), none, .bin .eql (.t 37) (.c (.int .i64 1))⟩,
    ⟨(some 39), none, .mov (.t 38)⟩,
    ⟨(some 40), some (39, false), .addr (.t 7) 0⟩,
    ⟨(some 41), some (39, false), .load (.t 40) none⟩,
    ⟨(some 42), some (39, false), .bin .eql (.t 41) (.c (.int .i64 2))⟩,
    ⟨(some 43), none, .pick (.t 39) (.c (.bool true)) (.t 42)⟩,
    ⟨(some 44), none, .mov (.t 43)⟩,
    ⟨(some 45), some (44, false), .addr (.t 7) 0⟩,
    ⟨(some 46), some (44, false), .load (.t 45) none⟩,
    ⟨(some 47), some (44, false), .bin .eql (.t 46) (.c (.int .i64 3))⟩,
    ⟨(some 48), none, .pick (.t 44) (.c (.bool true)) (.t 47)⟩])
  (.cond (.t 48) (.regionD [⟨(some 49), none, .addr (.t 5) 1⟩,
    ⟨(some 50), none, .load (.t 49) none⟩,
    ⟨(some 51), none, .mov (.t 6)⟩,
    ⟨(some 52), none, .addr (.t 5) 1⟩,
    ⟨(some 53), none, .load (.t 52) none⟩,
    ⟨(some 54), none, .mov (.t 6)⟩,
    ⟨(some 55), none, .addr (.t 2) 0⟩,
    ⟨(some 56), none, .load (.t 55) none⟩,
    ⟨(some 57), none, .bin .sub (.t 56) (.c (.int .i64 1))⟩,
    ⟨(some 58), none, .addr (.t 7) 2⟩,
    ⟨(some 59), none, .load (.t 58) none⟩,
    ⟨(some 60), none, .bin .sub (.t 57) (.t 59)⟩,
    ⟨(some 61), none, .addr (.t 2) 0⟩,
    ⟨(some 62), none, .load (.t 61) none⟩,
    ⟨(some 63), none, .bin .sub (.t 62) (.c (.int .i64 1))⟩,
    ⟨(some 64), none, .addr (.t 7) 1⟩,
    ⟨(some 65), none, .load (.t 64) none⟩,
    ⟨(some 66), none, .bin .sub (.t 63) (.t 65)⟩,
    ⟨(some 67), none, .idx (.t 50) (.t 51) 5⟩,
    ⟨(some 68), none, .addr (.t 67) 1⟩,
    ⟨none, none, .store (.t 68) (.t 60) 1⟩,
    ⟨(some 69), none, .idx (.t 53) (.t 54) 5⟩,
    ⟨(some 70), none, .addr (.t 69) 2⟩,
    ⟨none, none, .store (.t 70) (.t 66) 1⟩] [(52, 68), (61, 68), (64, 68)])
  (.skip)))))
  (.region [⟨(some 29), none, .mov (.t 6)⟩,
    ⟨(some 30), none, .bin .add (.t 29) (.c (.int .i64 1))⟩,
    ⟨(some 6), none, .mov (.t 30)⟩]))))))
  (.seq (.region [⟨(some 71), none, .load (.t 2) (some 2)⟩,
    ⟨(some 72), none, .load (.t 5) (some 2)⟩,
    ⟨(some 73), none, .mov (.t 1)⟩,
    ⟨(some 74), none, .addr (.t 2) 0⟩,
    ⟨(some 75), none, .load (.t 74) none⟩,
    ⟨(some 76), none, .bin .sub (.t 75) (.c (.int .i64 1))⟩,
    ⟨(some 77), none, .mov (.t 1)⟩,
    ⟨(some 78), none, .bin .sub (.t 76) (.t 77)⟩,
    ⟨(some 79), none, .call 49 [(.t 71), (.t 72), (.t 73), (.t 78)]⟩,
    ⟨(some 80), none, .mov (.t 79)⟩,
    ⟨(some 81), some (80, true), .call 15 []⟩,
    ⟨(some 82), none, .pick (.t 80) (.t 81) (.c (.bool false))⟩,
    ⟨(some 4), none, .mov (.t 82)⟩])
  (.ret)))))
def r10 : List Res := [.t 4]
def a10 : AFn := ⟨2, c10, r10, .v⟩

/-- bijou/bijoulaw01.ReelTears -/
def c11 : ACode := .seq (.region [⟨(some 2), none, .box (.t 0) 2⟩,
    ⟨(some 3), none, .box (.t 1) 5⟩,
    ⟨(some 4), none, .mov (.c (.bool false))⟩])
  (.seq (.seq (.region [⟨(some 13), none, .load (.t 2) (some 2)⟩,
    ⟨(some 14), none, .call 40 [(.t 13)]⟩,
    ⟨(some 15), none, .not (.t 14)⟩,
    ⟨(some 16), none, .mov (.t 15)⟩,
    ⟨(some 17), some (16, false), .addr (.t 2) 1⟩,
    ⟨(some 18), some (16, false), .load (.t 17) none⟩,
    ⟨(some 19), some (16, false), .len (.t 18)⟩,
    ⟨(some 20), some (16, false), .bin .geq (.t 19) (.c (.int .i64 10))⟩,
    ⟨(some 21), none, .pick (.t 16) (.c (.bool true)) (.t 20)⟩])
  (.cond (.t 21) (.seq (.region [⟨(some 22), none, .call 15 []⟩,
    ⟨(some 4), none, .mov (.t 22)⟩])
  (.ret))
  (.skip)))
  (.seq (.region [⟨(some 5), none, .mov (.c (.int .i64 0))⟩])
  (.seq (.seq (.region [⟨(some 6), none, .mov (.c (.int .i64 0))⟩])
  (.block 0 (.loop (.seq (.seq (.region [⟨(some 23), none, .mov (.t 6)⟩,
    ⟨(some 24), none, .addr (.t 2) 1⟩,
    ⟨(some 25), none, .load (.t 24) none⟩,
    ⟨(some 26), none, .len (.t 25)⟩,
    ⟨(some 27), none, .bin .lss (.t 23) (.t 26)⟩])
  (.cond (.t 27) (.skip)
  (.exit 0)))
  (.seq (.block 1 (.seq (.region [⟨(some 30), none, .addr (.t 2) 1⟩,
    ⟨(some 31), none, .load (.t 30) none⟩,
    ⟨(some 32), none, .mov (.t 6)⟩,
    ⟨(some 33), none, .idx (.t 31) (.t 32) 5⟩,
    ⟨(some 34), none, .addr (.t 33) 0⟩,
    ⟨(some 35), none, .load (.t 34) none⟩,
    ⟨(some 36), none, .bin .eql (.t 35) (.c (.int .i64 1))⟩])
  (.cond (.t 36) (.region [⟨(some 37), none, .mov (.t 5)⟩,
    ⟨(some 38), none, .bin .add (.t 37) (.c (.int .i64 1))⟩,
    ⟨(some 5), none, .mov (.t 38)⟩])
  (.skip))))
  (.region [⟨(some 28), none, .mov (.t 6)⟩,
    ⟨(some 29), none, .bin .add (.t 28) (.c (.int .i64 1))⟩,
    ⟨(some 6), none, .mov (.t 29)⟩]))))))
  (.seq (.region [⟨(some 40), none, .load (.t 2) (some 2)⟩,
    ⟨(some 41), none, .call 47 [(.t 40)]⟩,
    ⟨(some 39), none, .mov (.t 41)⟩,
    ⟨(some 42), none, .ext (.t 39) 0⟩,
    ⟨(some 43), none, .ext (.t 39) 1⟩,
    ⟨(some 7), none, .mov (.t 42)⟩,
    ⟨(some 8), none, .mov (.t 43)⟩])
  (.seq (.seq (.region [⟨(some 44), none, .mov (.t 8)⟩,
    ⟨(some 45), none, .mov (.t 44)⟩,
    ⟨(some 46), some (45, true), .mov (.t 7)⟩,
    ⟨(some 47), some (45, true), .idx (.t 46) (.c (.int .i64 1)) 2⟩,
    ⟨(some 48), some (45, true), .addr (.t 47) 1⟩,
    ⟨(some 49), some (45, true), .load (.t 48) none⟩,
    ⟨(some 50), some (45, true), .mov (.t 5)⟩,
    ⟨(some 51), some (45, true), .bin .gtr (.t 49) (.t 50)⟩,
    ⟨(some 52), none, .pick (.t 45) (.t 51) (.c (.bool false))⟩])
  (.cond (.t 52) (.seq (.region [⟨(some 4), none, .mov (.c (.bool false))⟩])
  (.ret))
  (.skip)))
  (.seq (.region [⟨(some 53), none, .addr (.t 3) 0⟩,
    ⟨none, none, .store (.t 53) (.c (.int .i64 1)) 1⟩])
  (.seq (.region [⟨(some 54), none, .load (.t 2) (some 2)⟩,
    ⟨(some 55), none, .load (.t 3) (some 5)⟩,
    ⟨(some 56), none, .call 46 [(.t 54), (.t 55)]⟩,
    ⟨(some 9), none, .new (.agg [(.int .i64 0), (.sl [] .tight)]) 2⟩,
    ⟨none, none, .store (.t 9) (.t 56) 2⟩])
  (.seq (.seq (.region [⟨(some 57), none, .mov (.t 5)⟩,
    ⟨(some 58), none, .addr (.t 2) 1⟩,
    ⟨(some 59), none, .load (.t 58) none⟩,
    ⟨(some 60), none, .len (.t 59)⟩,
    ⟨(some 61), none, .bin .lss (.t 57) (.t 60)⟩,
    ⟨(some 62), none, .mov (.t 61)⟩,
    ⟨(some 63), some (62, false), .load (.t 9) (some 2)⟩,
    ⟨(some 64), some (62, false), .call 40 [(.t 63)]⟩,
    ⟨(some 65), some (62, false), .not (.t 64)⟩,
    ⟨(some 66), none, .pick (.t 62) (.c (.bool true)) (.t 65)⟩,
    ⟨(some 67), none, .mov (.t 66)⟩,
    ⟨(some 68), some (67, false), .addr (.t 3) 3⟩,
    ⟨(some 69), some (67, false), .addr (.t 68) 0⟩,
    ⟨(some 70), some (67, false), .load (.t 69) none⟩,
    ⟨(some 71), some (67, false), .addr (.t 3) 2⟩,
    ⟨(some 72), some (67, false), .load (.t 71) none⟩,
    ⟨(some 73), some (67, false), .addr (.t 3) 1⟩,
    ⟨(some 74), some (67, false), .load (.t 73) none⟩,
    ⟨(some 75), some (67, false), .bin .sub (.t 72) (.t 74)⟩,
    ⟨(some 76), some (67, false), .bin .add (.t 75) (.c (.int .i64 1))⟩,
    ⟨(some 77), some (67, false), .bin .gtr (.t 70) (.t 76)⟩,
    ⟨(some 78), none, .pick (.t 67) (.c (.bool true)) (.t 77)⟩])
  (.cond (.t 78) (.seq (.region [⟨(some 79), none, .call 15 []⟩,
    ⟨(some 4), none, .mov (.t 79)⟩])
  (.ret))
  (.skip)))
  (.seq (.region [⟨(some 81), none, .load (.t 9) (some 2)⟩,
    ⟨(some 82), none, .call 47 [(.t 81)]⟩,
    ⟨(some 80), none, .mov (.t 82)⟩,
    ⟨(some 83), none, .ext (.t 80) 0⟩,
    ⟨(some 84), none, .ext (.t 80) 1⟩,
    ⟨(some 10), none, .mov (.t 83)⟩,
    ⟨(some 11), none, .mov (.t 84)⟩])
  (.seq (.seq (.region [⟨(some 12), none, .mov (.c (.int .i64 0))⟩])
  (.block 2 (.loop (.seq (.seq (.region [⟨(some 85), none, .mov (.t 12)⟩,
    ⟨(some 86), none, .addr (.t 2) 1⟩,
    ⟨(some 87), none, .load (.t 86) none⟩,
    ⟨(some 88), none, .len (.t 87)⟩,
    ⟨(some 89), none, .bin .lss (.t 85) (.t 88)⟩])
  (.cond (.t 89) (.skip)
  (.exit 2)))
  (.seq (.block 3 (.seq (.region [⟨(some 92), none, .addr (.t 2) 1⟩,
    ⟨(some 93), none, .load (.t 92) none⟩,
    ⟨(some 94), none, .mov (.t 12)⟩,
    ⟨(some 95), none, .idx (.t 93) (.t 94) 5⟩,
    ⟨(some 96), none, .addr (.t 95) 3⟩,
    ⟨(some 97), none, .addr (.t 96) 0⟩,
    ⟨(some 98), none, .load (.t 97) none⟩,
    ⟨(some 99), none, .addr (.t 2) 1⟩,
    ⟨(some 100), none, .load (.t 99) none⟩,
    ⟨(some 101), none, .mov (.t 12)⟩,
    ⟨(some 102), none, .idx (.t 100) (.t 101) 5⟩,
    ⟨(some 103), none, .addr (.t 102) 2⟩,
    ⟨(some 104), none, .load (.t 103) none⟩,
    ⟨(some 105), none, .addr (.t 2) 1⟩,
    ⟨(some 106), none, .load (.t 105) none⟩,
    ⟨(some 107), none, .mov (.t 12)⟩,
    ⟨(some 108), none, .idx (.t 106) (.t 107) 5⟩,
    ⟨(some 109), none, .addr (.t 108) 1⟩,
    ⟨(some 110), none, .load (.t 109) none⟩,
    ⟨(some 111), none, .bin .sub (.t 104) (.t 110)⟩,
    ⟨(some 112), none, .bin .add (.t 111) (.c (.int .i64 1))⟩,
    ⟨(some 113), none, .bin .gtr (.t 98) (.t 112)⟩])
  (.cond (.t 113) (.seq (.region [⟨(some 114), none, .mov (.t 8)⟩,
    ⟨(some 115), none, .not (.t 114)⟩,
    ⟨(some 116), none, .mov (.t 115)⟩,
    ⟨(some 117), some (116, true), .mov (.t 11)⟩,
    ⟨(some 118), some (116, true), .not (.t 117)⟩,
    ⟨(some 119), none, .pick (.t 116) (.t 118) (.c (.bool false))⟩,
    ⟨(some 120), none, .mov (.t 119)⟩,
    ⟨(some 121), some (120, true), .call 15 []⟩,
    ⟨(some 122), none, .pick (.t 120) (.t 121) (.c (.bool false))⟩,
    ⟨(some 4), none, .mov (.t 122)⟩])
  (.ret))
  (.skip))))
  (.region [⟨(some 90), none, .mov (.t 12)⟩,
    ⟨(some 91), none, .bin .add (.t 90) (.c (.int .i64 1))⟩,
    ⟨(some 12), none, .mov (.t 91)⟩]))))))
  (.seq (.region [⟨(some 123), none, .mov (.t 8)⟩,
    ⟨(some 124), none, .mov (.t 123)⟩,
    ⟨(some 125), some (124, true), .mov (.t 11)⟩,
    ⟨(some 126), none, .pick (.t 124) (.t 125) (.c (.bool false))⟩,
    ⟨(some 127), none, .mov (.t 126)⟩,
    ⟨(some 128), some (127, true), .mov (.t 10)⟩,
    ⟨(some 129), some (127, true), .idx (.t 128) (.c (.int .i64 0)) 2⟩,
    ⟨(some 130), some (127, true), .addr (.t 129) 1⟩,
    ⟨(some 131), some (127, true), .load (.t 130) none⟩,
    ⟨(some 132), some (127, true), .mov (.t 7)⟩,
    ⟨(some 133), some (127, true), .idx (.t 132) (.c (.int .i64 0)) 2⟩,
    ⟨(some 134), some (127, true), .addr (.t 133) 1⟩,
    ⟨(some 135), some (127, true), .load (.t 134) none⟩,
    ⟨(some 136), some (127, true), .bin .leq (.t 131) (.t 135)⟩,
    ⟨(some 137), none, .pick (.t 127) (.t 136) (.c (.bool false))⟩,
    ⟨(some 138), none, .mov (.t 137)⟩,
    ⟨(some 139), some (138, true), .mov (.t 10)⟩,
    ⟨(some 140), some (138, true), .idx (.t 139) (.c (.int .i64 1)) 2⟩,
    ⟨(some 141), some (138, true), .addr (.t 140) 1⟩,
    ⟨(some 142), some (138, true), .load (.t 141) none⟩,
    ⟨(some 143), some (138, true), .mov (.t 7)⟩,
    ⟨(some 144), some (138, true), .idx (.t 143) (.c (.int .i64 1)) 2⟩,
    ⟨(some 145), some (138, true), .addr (.t 144) 1⟩,
    ⟨(some 146), some (138, true), .load (.t 145) none⟩,
    ⟨(some 147), some (138, true), .bin .add (.t 146) (.c (.int .i64 1))⟩,
    ⟨(some 148), some (138, true), .bin .leq (.t 142) (.t 147)⟩,
    ⟨(some 149), none, .pick (.t 138) (.t 148) (.c (.bool false))⟩,
    ⟨(some 150), none, .mov (.t 149)⟩,
    ⟨(some 151), some (150, true), .mov (.t 10)⟩,
    ⟨(some 152), some (150, true), .idx (.t 151) (.c (.int .i64 2)) 2⟩,
    ⟨(some 153), some (150, true), .addr (.t 152) 1⟩,
    ⟨(some 154), some (150, true), .load (.t 153) none⟩,
    ⟨(some 155), some (150, true), .mov (.t 7)⟩,
    ⟨(some 156), some (150, true), .idx (.t 155) (.c (.int .i64 2)) 2⟩,
    ⟨(some 157), some (150, true), .addr (.t 156) 1⟩,
    ⟨(some 158), some (150, true), .load (.t 157) none⟩,
    ⟨(some 159), some (150, true), .bin .leq (.t 154) (.t 158)⟩,
    ⟨(some 160), none, .pick (.t 150) (.t 159) (.c (.bool false))⟩,
    ⟨(some 161), none, .mov (.t 160)⟩,
    ⟨(some 162), some (161, true), .call 15 []⟩,
    ⟨(some 163), none, .pick (.t 161) (.t 162) (.c (.bool false))⟩,
    ⟨(some 4), none, .mov (.t 163)⟩])
  (.ret))))))))))))
def r11 : List Res := [.t 4]
def a11 : AFn := ⟨2, c11, r11, .v⟩

/-- bijou/bijoulaw01.ReelLiars -/
def c12 : ACode := .seq (.region [⟨(some 2), none, .box (.t 0) 2⟩,
    ⟨(some 4), none, .mov (.c (.bool false))⟩])
  (.seq (.seq (.region [⟨(some 14), none, .load (.t 2) (some 2)⟩,
    ⟨(some 15), none, .call 40 [(.t 14)]⟩,
    ⟨(some 16), none, .not (.t 15)⟩])
  (.cond (.t 16) (.seq (.region [⟨(some 17), none, .call 15 []⟩,
    ⟨(some 4), none, .mov (.t 17)⟩])
  (.ret))
  (.skip)))
  (.seq (.region [⟨(some 19), none, .load (.t 2) (some 2)⟩,
    ⟨(some 20), none, .call 19 [(.t 19)]⟩,
    ⟨(some 18), none, .mov (.t 20)⟩,
    ⟨(some 21), none, .ext (.t 18) 0⟩,
    ⟨(some 22), none, .ext (.t 18) 1⟩,
    ⟨(some 5), none, .mov (.t 21)⟩,
    ⟨(some 6), none, .mov (.t 22)⟩])
  (.seq (.region [⟨(some 24), none, .load (.t 2) (some 2)⟩,
    ⟨(some 25), none, .call 17 [(.t 24)]⟩,
    ⟨(some 23), none, .mov (.t 25)⟩,
    ⟨(some 26), none, .ext (.t 23) 0⟩,
    ⟨(some 27), none, .ext (.t 23) 1⟩,
    ⟨(some 7), none, .mov (.t 26)⟩,
    ⟨(some 8), none, .mov (.t 27)⟩])
  (.seq (.seq (.region [⟨(some 28), none, .mov (.t 6)⟩,
    ⟨(some 29), none, .bin .neq (.t 28) (.c (.int .i64 0))⟩,
    ⟨(some 30), none, .mov (.t 29)⟩,
    ⟨(some 31), some (30, false), .mov (.t 8)⟩,
    ⟨(some 32), some (30, false), .bin .neq (.t 31) (.c (.int .i64 0))⟩,
    ⟨(some 33), none, .pick (.t 30) (.c (.bool true)) (.t 32)⟩,
    ⟨(some 34), none, .mov (.t 33)⟩,
    ⟨(some 35), some (34, false), .mov (.t 7)⟩,
    ⟨(some 36), some (34, false), .bin .gtr (.t 35) (.c (.int .i64 0))⟩,
    ⟨(some 37), some (34, false), .mov (.t 5)⟩,
    ⟨(some 38), some (34, false), .bin .eql (.t 37) (.c (.int .i64 0))⟩,
    ⟨(some 39), some (34, false), .eqv true false [.b] (.t 36) (.t 38)⟩,
    ⟨(some 40), none, .pick (.t 34) (.c (.bool true)) (.t 39)⟩,
    ⟨(some 41), none, .mov (.t 40)⟩,
    ⟨(some 42), some (41, false), .mov (.t 5)⟩,
    ⟨(some 43), some (41, false), .bin .lss (.t 42) (.c (.int .i64 0))⟩,
    ⟨(some 44), none, .pick (.t 41) (.c (.bool true)) (.t 43)⟩,
    ⟨(some 45), none, .mov (.t 44)⟩,
    ⟨(some 46), some (45, false), .mov (.t 5)⟩,
    ⟨(some 47), some (45, false), .addr (.t 2) 1⟩,
    ⟨(some 48), some (45, false), .load (.t 47) none⟩,
    ⟨(some 49), some (45, false), .len (.t 48)⟩,
    ⟨(some 50), some (45, false), .bin .gtr (.t 46) (.t 49)⟩,
    ⟨(some 51), none, .pick (.t 45) (.c (.bool true)) (.t 50)⟩])
  (.cond (.t 51) (.seq (.region [⟨(some 4), none, .mov (.c (.bool false))⟩])
  (.ret))
  (.skip)))
  (.seq (.region [⟨(some 52), none, .mov (.t 5)⟩,
    ⟨(some 53), none, .bin .eql (.t 52) (.c (.int .i64 0))⟩,
    ⟨(some 9), none, .mov (.t 53)⟩])
  (.seq (.seq (.region [⟨(some 10), none, .mov (.c (.int .i64 0))⟩])
  (.block 0 (.loop (.seq (.seq (.region [⟨(some 54), none, .mov (.t 10)⟩,
    ⟨(some 55), none, .addr (.t 2) 1⟩,
    ⟨(some 56), none, .load (.t 55) none⟩,
    ⟨(some 57), none, .len (.t 56)⟩,
    ⟨(some 58), none, .bin .lss (.t 54) (.t 57)⟩])
  (.cond (.t 58) (.skip)
  (.exit 0)))
  (.seq (.block 1 (.seq (.seq (.region [⟨(some 61), none, .mov (.t 5)⟩,
    ⟨(some 62), none, .bin .eql (.t 61) (.c (.int .i64 0))⟩,
    ⟨(some 63), none, .mov (.t 62)⟩,
    ⟨(some 64), some (63, true), .mov (.t 10)⟩,
    ⟨(some 65), some (63, true), .mov (.t 1)⟩,
    ⟨(some 66), some (63, true), .bin .neq (.t 64) (.t 65)⟩,
    ⟨(some 67), none, .pick (.t 63) (.t 66) (.c (.bool false))⟩])
  (.cond (.t 67) (.exit 1)
  (.skip)))
  (.seq (.region [⟨(some 68), none, .load (.t 2) (some 2)⟩,
    ⟨(some 69), none, .call 16 [(.t 68)]⟩,
    ⟨(some 11), none, .new (.agg [(.int .i64 0), (.sl [] .tight)]) 2⟩,
    ⟨none, none, .store (.t 11) (.t 69) 2⟩])
  (.seq (.region [⟨(some 70), none, .addr (.t 11) 1⟩,
    ⟨(some 71), none, .load (.t 70) none⟩,
    ⟨(some 72), none, .mov (.t 10)⟩,
    ⟨(some 73), none, .slice (.t 71) none (some (.t 72)) 5⟩,
    ⟨(some 74), none, .addr (.t 2) 1⟩,
    ⟨(some 75), none, .load (.t 74) none⟩,
    ⟨(some 76), none, .mov (.t 10)⟩,
    ⟨(some 77), none, .bin .add (.t 76) (.c (.int .i64 1))⟩,
    ⟨(some 78), none, .slice (.t 75) (some (.t 77)) none 5⟩,
    ⟨(some 79), none, .app false (.t 73) (.t 78) 37 5 40⟩,
    ⟨(some 80), none, .addr (.t 11) 1⟩,
    ⟨none, none, .store (.t 80) (.t 79) 1⟩])
  (.seq (.region [⟨(some 82), none, .load (.t 11) (some 2)⟩,
    ⟨(some 83), none, .call 19 [(.t 82)]⟩,
    ⟨(some 81), none, .mov (.t 83)⟩,
    ⟨(some 84), none, .ext (.t 81) 0⟩,
    ⟨(some 85), none, .ext (.t 81) 1⟩,
    ⟨(some 12), none, .mov (.t 84)⟩,
    ⟨(some 13), none, .mov (.t 85)⟩])
  (.seq (.seq (.region [⟨(some 86), none, .mov (.t 13)⟩,
    ⟨(some 87), none, .bin .neq (.t 86) (.c (.int .i64 0))⟩,
    ⟨(some 88), none, .mov (.t 87)⟩,
    ⟨(some 89), some (88, false), .mov (.t 12)⟩,
    ⟨(some 90), some (88, false), .mov (.t 5)⟩,
    ⟨(some 91), some (88, false), .bin .sub (.t 90) (.c (.int .i64 1))⟩,
    ⟨(some 92), some (88, false), .bin .lss (.t 89) (.t 91)⟩,
    ⟨(some 93), none, .pick (.t 88) (.c (.bool true)) (.t 92)⟩,
    ⟨(some 94), none, .mov (.t 93)⟩,
    ⟨(some 95), some (94, false), .addr (.t 2) 1⟩,
    ⟨(some 96), some (94, false), .load (.t 95) none⟩,
    ⟨(some 97), some (94, false), .mov (.t 10)⟩,
    ⟨(some 98), some (94, false), .idx (.t 96) (.t 97) 5⟩,
    ⟨(some 99), some (94, false), .addr (.t 98) 0⟩,
    ⟨(some 100), some (94, false), .load (.t 99) none⟩,
    ⟨(some 101), some (94, false), .bin .neq (.t 100) (.c (.int .i64 1))⟩,
    ⟨(some 102), some (94, false), .mov (.t 101)⟩,
    ⟨(some 103), some (102, true), .mov (.t 12)⟩,
    ⟨(some 104), some (102, true), .mov (.t 5)⟩,
    ⟨(some 105), some (102, true), .bin .gtr (.t 103) (.t 104)⟩,
    ⟨(some 106), some (94, false), .pick (.t 102) (.t 105) (.c (.bool false))⟩,
    ⟨(some 107), none, .pick (.t 94) (.c (.bool true)) (.t 106)⟩])
  (.cond (.t 107) (.seq (.region [⟨(some 4), none, .mov (.c (.bool false))⟩])
  (.ret))
  (.skip)))
  (.region [⟨(some 108), none, .mov (.t 9)⟩,
    ⟨(some 109), none, .mov (.t 108)⟩,
    ⟨(some 110), some (109, false), .mov (.t 12)⟩,
    ⟨(some 111), some (109, false), .mov (.t 5)⟩,
    ⟨(some 112), some (109, false), .bin .sub (.t 111) (.c (.int .i64 1))⟩,
    ⟨(some 113), some (109, false), .bin .eql (.t 110) (.t 112)⟩,
    ⟨(some 114), none, .pick (.t 109) (.c (.bool true)) (.t 113)⟩,
    ⟨(some 9), none, .mov (.t 114)⟩])))))))
  (.region [⟨(some 59), none, .mov (.t 10)⟩,
    ⟨(some 60), none, .bin .add (.t 59) (.c (.int .i64 1))⟩,
    ⟨(some 10), none, .mov (.t 60)⟩]))))))
  (.seq (.region [⟨(some 115), none, .mov (.t 9)⟩,
    ⟨(some 116), none, .mov (.t 115)⟩,
    ⟨(some 117), some (116, true), .call 15 []⟩,
    ⟨(some 118), none, .pick (.t 116) (.t 117) (.c (.bool false))⟩,
    ⟨(some 4), none, .mov (.t 118)⟩])
  (.ret))))))))
def r12 : List Res := [.t 4]
def a12 : AFn := ⟨2, c12, r12, .v⟩

/-- bijou/bijoulaw01.ReelPut -/
def c13 : ACode := .seq (.region [⟨(some 4), none, .mov (.c (.bool false))⟩])
  (.seq (.seq (.region [⟨(some 15), none, .mov (.t 0)⟩,
    ⟨(some 16), none, .len (.t 15)⟩,
    ⟨(some 17), none, .bin .lss (.t 16) (.c (.int .i64 1))⟩,
    ⟨(some 18), none, .mov (.t 17)⟩,
    ⟨(some 19), some (18, false), .mov (.t 0)⟩,
    ⟨(some 20), some (18, false), .len (.t 19)⟩,
    ⟨(some 21), some (18, false), .bin .gtr (.t 20) (.c (.int .i64 4))⟩,
    ⟨(some 22), none, .pick (.t 18) (.c (.bool true)) (.t 21)⟩])
  (.cond (.t 22) (.seq (.region [⟨(some 23), none, .call 15 []⟩,
    ⟨(some 4), none, .mov (.t 23)⟩])
  (.ret))
  (.skip)))
  (.seq (.seq (.region [⟨(some 5), none, .mov (.c (.int .i64 0))⟩])
  (.block 0 (.loop (.seq (.seq (.region [⟨(some 24), none, .mov (.t 5)⟩,
    ⟨(some 25), none, .mov (.t 0)⟩,
    ⟨(some 26), none, .len (.t 25)⟩,
    ⟨(some 27), none, .bin .lss (.t 24) (.t 26)⟩])
  (.cond (.t 27) (.skip)
  (.exit 0)))
  (.seq (.block 1 (.seq (.region [⟨(some 30), none, .mov (.t 0)⟩,
    ⟨(some 31), none, .mov (.t 5)⟩,
    ⟨(some 32), none, .idx (.t 30) (.t 31) 2⟩,
    ⟨(some 33), none, .load (.t 32) (some 2)⟩,
    ⟨(some 34), none, .call 40 [(.t 33)]⟩,
    ⟨(some 35), none, .not (.t 34)⟩,
    ⟨(some 36), none, .mov (.t 35)⟩,
    ⟨(some 37), some (36, false), .mov (.t 0)⟩,
    ⟨(some 38), some (36, false), .mov (.t 5)⟩,
    ⟨(some 39), some (36, false), .idx (.t 37) (.t 38) 2⟩,
    ⟨(some 40), some (36, false), .addr (.t 39) 0⟩,
    ⟨(some 41), some (36, false), .load (.t 40) none⟩,
    ⟨(some 42), some (36, false), .mov (.t 0)⟩,
    ⟨(some 43), some (36, false), .idx (.t 42) (.c (.int .i64 0)) 2⟩,
    ⟨(some 44), some (36, false), .addr (.t 43) 0⟩,
    ⟨(some 45), some (36, false), .load (.t 44) none⟩,
    ⟨(some 46), some (36, false), .bin .neq (.t 41) (.t 45)⟩,
    ⟨(some 47), none, .pick (.t 36) (.c (.bool true)) (.t 46)⟩,
    ⟨(some 48), none, .mov (.t 47)⟩,
    ⟨(some 49), some (48, false), .mov (.t 1)⟩,
    ⟨(some 50), some (48, false), .bin .lss (.t 49) (.c (.int .i64 0))⟩,
    ⟨(some 51), none, .pick (.t 48) (.c (.bool true)) (.t 50)⟩,
    ⟨(some 52), none, .mov (.t 51)⟩,
    ⟨(some 53), some (52, false), .mov (.t 1)⟩,
    ⟨(some 54), some (52, false), .mov (.t 0)⟩,
    ⟨(some 55), some (52, false), .idx (.t 54) (.c (.int .i64 0)) 2⟩,
    ⟨(some 56), some (52, false), .addr (.t 55) 0⟩,
    ⟨(some 57), some (52, false), .load (.t 56) none⟩,
    ⟨(some 58), some (52, false), .bin .geq (.t 53) (.t 57)⟩,
    ⟨(some 59), none, .pick (.t 52) (.c (.bool true)) (.t 58)⟩])
  (.cond (.t 59) (.seq (.region [⟨(some 60), none, .call 15 []⟩,
    ⟨(some 4), none, .mov (.t 60)⟩])
  (.ret))
  (.skip))))
  (.region [⟨(some 28), none, .mov (.t 5)⟩,
    ⟨(some 29), none, .bin .add (.t 28) (.c (.int .i64 1))⟩,
    ⟨(some 5), none, .mov (.t 29)⟩]))))))
  (.seq (.region [⟨(some 62), none, .mov (.t 0)⟩,
    ⟨(some 63), none, .call 37 [(.t 62)]⟩,
    ⟨(some 61), none, .mov (.t 63)⟩,
    ⟨(some 64), none, .ext (.t 61) 0⟩,
    ⟨(some 65), none, .ext (.t 61) 1⟩,
    ⟨(some 6), none, .mov (.t 64)⟩,
    ⟨(some 7), none, .mov (.t 65)⟩])
  (.seq (.region [⟨(some 8), none, .mov (.c (.bool false))⟩,
    ⟨(some 9), none, .mov (.c (.bool false))⟩])
  (.seq (.seq (.region [⟨(some 10), none, .mov (.c (.int .i64 0))⟩])
  (.block 2 (.loop (.seq (.seq (.region [⟨(some 66), none, .mov (.t 10)⟩,
    ⟨(some 67), none, .mov (.t 0)⟩,
    ⟨(some 68), none, .len (.t 67)⟩,
    ⟨(some 69), none, .bin .lss (.t 66) (.t 68)⟩])
  (.cond (.t 69) (.skip)
  (.exit 2)))
  (.seq (.block 3 (.seq (.region [⟨(some 73), none, .mov (.t 0)⟩,
    ⟨(some 74), none, .mov (.t 10)⟩,
    ⟨(some 75), none, .idx (.t 73) (.t 74) 2⟩,
    ⟨(some 76), none, .load (.t 75) (some 2)⟩,
    ⟨(some 77), none, .mov (.t 1)⟩,
    ⟨(some 78), none, .call 29 [(.t 76), (.t 77)]⟩,
    ⟨(some 72), none, .mov (.t 78)⟩,
    ⟨(some 79), none, .ext (.t 72) 0⟩,
    ⟨(some 80), none, .ext (.t 72) 1⟩,
    ⟨(some 11), none, .mov (.t 79)⟩,
    ⟨(some 12), none, .mov (.t 80)⟩])
  (.seq (.seq (.region [⟨(some 81), none, .mov (.t 12)⟩,
    ⟨(some 82), none, .bin .neq (.t 81) (.c (.int .i64 0))⟩,
    ⟨(some 83), none, .mov (.t 82)⟩,
    ⟨(some 84), some (83, true), .mov (.t 12)⟩,
    ⟨(some 85), some (83, true), .bin .neq (.t 84) (.c (.int .i64 3))⟩,
    ⟨(some 86), none, .pick (.t 83) (.t 85) (.c (.bool false))⟩])
  (.cond (.t 86) (.seq (.region [⟨(some 4), none, .mov (.c (.bool false))⟩])
  (.ret))
  (.skip)))
  (.seq (.region [⟨(some 87), none, .mov (.t 9)⟩,
    ⟨(some 88), none, .mov (.t 87)⟩,
    ⟨(some 89), some (88, false), .mov (.t 12)⟩,
    ⟨(some 90), some (88, false), .bin .eql (.t 89) (.c (.int .i64 3))⟩,
    ⟨(some 91), none, .pick (.t 88) (.c (.bool true)) (.t 90)⟩,
    ⟨(some 9), none, .mov (.t 91)⟩])
  (.region [⟨(some 92), none, .mov (.t 8)⟩,
    ⟨(some 93), none, .mov (.t 92)⟩,
    ⟨(some 94), some (93, false), .mov (.t 11)⟩,
    ⟨(some 95), some (93, false), .bin .eql (.t 94) (.c (.int .i64 1))⟩,
    ⟨(some 96), none, .pick (.t 93) (.c (.bool true)) (.t 95)⟩,
    ⟨(some 8), none, .mov (.t 96)⟩])))))
  (.region [⟨(some 70), none, .mov (.t 10)⟩,
    ⟨(some 71), none, .bin .add (.t 70) (.c (.int .i64 1))⟩,
    ⟨(some 10), none, .mov (.t 71)⟩]))))))
  (.seq (.seq (.region [⟨(some 97), none, .mov (.t 9)⟩])
  (.cond (.t 97) (.seq (.region [⟨(some 98), none, .mov (.t 7)⟩,
    ⟨(some 99), none, .bin .eql (.t 98) (.c (.int .i64 3))⟩,
    ⟨(some 100), none, .mov (.t 99)⟩,
    ⟨(some 101), some (100, true), .call 15 []⟩,
    ⟨(some 102), none, .pick (.t 100) (.t 101) (.c (.bool false))⟩,
    ⟨(some 4), none, .mov (.t 102)⟩])
  (.ret))
  (.skip)))
  (.seq (.seq (.region [⟨(some 103), none, .mov (.t 7)⟩,
    ⟨(some 104), none, .bin .neq (.t 103) (.c (.int .i64 0))⟩,
    ⟨(some 105), none, .mov (.t 104)⟩,
    ⟨(some 106), some (105, false), .mov (.t 6)⟩,
    ⟨(some 107), some (105, false), .mov (.t 1)⟩,
    ⟨(some 108), some (105, false), .call 50 [(.t 106), (.t 107)]⟩,
    ⟨(some 109), some (105, false), .mov (.t 8)⟩,
    ⟨(some 110), some (105, false), .eqv false false [.b] (.t 108) (.t 109)⟩,
    ⟨(some 111), none, .pick (.t 105) (.c (.bool true)) (.t 110)⟩])
  (.cond (.t 111) (.seq (.region [⟨(some 4), none, .mov (.c (.bool false))⟩])
  (.ret))
  (.skip)))
  (.seq (.region [⟨(some 113), none, .mov (.t 0)⟩,
    ⟨(some 114), none, .slice (.t 113) none (some (.c (.int .i64 1))) 2⟩,
    ⟨(some 115), none, .call 37 [(.t 114)]⟩,
    ⟨(some 112), none, .mov (.t 115)⟩,
    ⟨(some 116), none, .ext (.t 112) 0⟩,
    ⟨(some 117), none, .ext (.t 112) 1⟩,
    ⟨(some 13), none, .mov (.t 116)⟩,
    ⟨(some 14), none, .mov (.t 117)⟩])
  (.seq (.region [⟨(some 118), none, .mov (.t 14)⟩,
    ⟨(some 119), none, .bin .eql (.t 118) (.c (.int .i64 0))⟩,
    ⟨(some 120), none, .mov (.t 119)⟩,
    ⟨(some 121), some (120, true), .mov (.t 6)⟩,
    ⟨(some 122), some (120, true), .mov (.t 1)⟩,
    ⟨(some 123), some (120, true), .call 50 [(.t 121), (.t 122)]⟩,
    ⟨(some 124), some (120, true), .not (.t 123)⟩,
    ⟨(some 125), some (120, true), .mov (.t 124)⟩,
    ⟨(some 126), some (125, false), .mov (.t 13)⟩,
    ⟨(some 127), some (125, false), .mov (.t 1)⟩,
    ⟨(some 128), some (125, false), .call 50 [(.t 126), (.t 127)]⟩,
    ⟨(some 129), some (120, true), .pick (.t 125) (.c (.bool true)) (.t 128)⟩,
    ⟨(some 130), none, .pick (.t 120) (.t 129) (.c (.bool false))⟩,
    ⟨(some 131), none, .mov (.t 130)⟩,
    ⟨(some 132), some (131, true), .call 15 []⟩,
    ⟨(some 133), none, .pick (.t 131) (.t 132) (.c (.bool false))⟩,
    ⟨(some 4), none, .mov (.t 133)⟩])
  (.ret))))))))))
def r13 : List Res := [.t 4]
def a13 : AFn := ⟨2, c13, r13, .v⟩

/-- bijou/bijoulaw01.Far -/
def c14 : ACode := .seq (.region [⟨(some 1), none, .box (.t 0) 2⟩,
    ⟨(some 2), none, .mov (.c (.bool false))⟩])
  (.seq (.region [⟨(some 3), none, .addr (.t 1) 1⟩,
    ⟨(some 4), none, .load (.t 3) none⟩,
    ⟨(some 5), none, .len (.t 4)⟩,
    ⟨(some 6), none, .bin .gtr (.t 5) (.c (.int .i64 40))⟩,
    ⟨(some 7), none, .mov (.t 6)⟩,
    ⟨(some 8), some (7, false), .addr (.t 1) 0⟩,
    ⟨(some 9), some (7, false), .load (.t 8) none⟩,
    ⟨(some 10), some (7, false), .bin .gtr (.t 9) (.c (.int .i64 9))⟩,
    ⟨(some 11), some (7, false), .mov (.t 10)⟩,
    ⟨(some 12), some (11, true), .addr (.t 1) 0⟩,
    ⟨(some 13), some (11, true), .load (.t 12) none⟩,
    ⟨(some 14), some (11, true), .bin .leq (.t 13) (.c (.int .i64 16))⟩,
    ⟨(some 15), some (7, false), .pick (.t 11) (.t 14) (.c (.bool false))⟩,
    ⟨(some 16), none, .pick (.t 7) (.c (.bool true)) (.t 15)⟩,
    ⟨(some 2), none, .mov (.t 16)⟩])
  (.ret))
def r14 : List Res := [.t 2]
def a14 : AFn := ⟨1, c14, r14, .v⟩

/-- bijou/bijoulaw01.works -/
def c15 : ACode := .seq (.region [⟨(some 0), none, .mov (.c (.bool false))⟩])
  (.seq (.region [⟨(some 10), none, .call 51 []⟩,
    ⟨(some 1), none, .new (.agg [(.int .i64 0), (.sl [] .tight)]) 2⟩,
    ⟨none, none, .store (.t 1) (.t 10) 2⟩])
  (.seq (.region [⟨(some 12), none, .load (.t 1) (some 2)⟩,
    ⟨(some 13), none, .call 17 [(.t 12)]⟩,
    ⟨(some 11), none, .mov (.t 13)⟩,
    ⟨(some 14), none, .ext (.t 11) 0⟩,
    ⟨(some 15), none, .ext (.t 11) 1⟩,
    ⟨(some 2), none, .mov (.t 14)⟩,
    ⟨(some 3), none, .mov (.t 15)⟩])
  (.seq (.region [⟨(some 17), none, .load (.t 1) (some 2)⟩,
    ⟨(some 18), none, .call 23 [(.t 17)]⟩,
    ⟨(some 16), none, .mov (.t 18)⟩,
    ⟨(some 19), none, .ext (.t 16) 0⟩,
    ⟨(some 20), none, .ext (.t 16) 1⟩,
    ⟨(some 4), none, .new (.agg [(.int .i64 0), (.int .i64 0)]) 2⟩,
    ⟨none, none, .store (.t 4) (.t 19) 2⟩,
    ⟨(some 5), none, .mov (.t 20)⟩])
  (.seq (.region [⟨(some 22), none, .load (.t 1) (some 2)⟩,
    ⟨(some 23), none, .call 29 [(.t 22), (.c (.int .i64 3))]⟩,
    ⟨(some 21), none, .mov (.t 23)⟩,
    ⟨(some 24), none, .ext (.t 21) 0⟩,
    ⟨(some 25), none, .ext (.t 21) 1⟩,
    ⟨(some 6), none, .mov (.t 24)⟩,
    ⟨(some 7), none, .mov (.t 25)⟩])
  (.seq (.region [⟨(some 27), none, .load (.t 1) (some 2)⟩,
    ⟨(some 28), none, .lit false 24 2 [(.t 27)]⟩,
    ⟨(some 29), none, .call 37 [(.t 28)]⟩,
    ⟨(some 26), none, .mov (.t 29)⟩,
    ⟨(some 30), none, .ext (.t 26) 0⟩,
    ⟨(some 31), none, .ext (.t 26) 1⟩,
    ⟨(some 8), none, .mov (.t 30)⟩,
    ⟨(some 9), none, .mov (.t 31)⟩])
  (.seq (.region [⟨(some 32), none, .mov (.t 3)⟩,
    ⟨(some 33), none, .bin .eql (.t 32) (.c (.int .i64 0))⟩,
    ⟨(some 34), none, .mov (.t 33)⟩,
    ⟨(some 35), some (34, true), .mov (.t 5)⟩,
    ⟨(some 36), some (34, true), .bin .eql (.t 35) (.c (.int .i64 0))⟩,
    ⟨(some 37), none, .pick (.t 34) (.t 36) (.c (.bool false))⟩,
    ⟨(some 38), none, .mov (.t 37)⟩,
    ⟨(some 39), some (38, true), .mov (.t 7)⟩,
    ⟨(some 40), some (38, true), .bin .eql (.t 39) (.c (.int .i64 0))⟩,
    ⟨(some 41), none, .pick (.t 38) (.t 40) (.c (.bool false))⟩,
    ⟨(some 42), none, .mov (.t 41)⟩,
    ⟨(some 43), some (42, true), .mov (.t 9)⟩,
    ⟨(some 44), some (42, true), .bin .eql (.t 43) (.c (.int .i64 0))⟩,
    ⟨(some 45), none, .pick (.t 42) (.t 44) (.c (.bool false))⟩,
    ⟨(some 46), none, .mov (.t 45)⟩,
    ⟨(some 47), some (46, true), .mov (.t 2)⟩,
    ⟨(some 48), some (46, true), .bin .eql (.t 47) (.c (.int .i64 6))⟩,
    ⟨(some 49), none, .pick (.t 46) (.t 48) (.c (.bool false))⟩,
    ⟨(some 50), none, .mov (.t 49)⟩,
    ⟨(some 51), some (50, true), .load (.t 4) (some 2)⟩,
    ⟨(some 52), some (50, true), .build [(.int .i64 0), (.int .i64 0)] [(0, 1, (.c (.int .i64 5))), (1, 1, (.c (.int .i64 6)))]⟩,
    ⟨(some 53), some (50, true), .eqv false true [.i, .i] (.t 51) (.t 52)⟩,
    ⟨(some 54), none, .pick (.t 50) (.t 53) (.c (.bool false))⟩,
    ⟨(some 55), none, .mov (.t 54)⟩,
    ⟨(some 56), some (55, true), .mov (.t 6)⟩,
    ⟨(some 57), some (55, true), .bin .eql (.t 56) (.c (.int .i64 3))⟩,
    ⟨(some 58), none, .pick (.t 55) (.t 57) (.c (.bool false))⟩,
    ⟨(some 59), none, .mov (.t 58)⟩,
    ⟨(some 60), some (59, true), .mov (.t 8)⟩,
    ⟨(some 61), some (59, true), .lit false 3 1 [(.c (.int .i64 3)), (.c (.int .i64 4)), (.c (.int .i64 6)), (.c (.int .i64 7))]⟩,
    ⟨(some 62), some (59, true), .call 39 [(.t 60), (.t 61)]⟩,
    ⟨(some 63), none, .pick (.t 59) (.t 62) (.c (.bool false))⟩,
    ⟨(some 0), none, .mov (.t 63)⟩])
  (.ret)))))))
def r15 : List Res := [.t 0]
def a15 : AFn := ⟨0, c15, r15, .v⟩

/-- bijou/bijouref01.Copy -/
def c16 : ACode := .seq (.region [⟨(some 1), none, .box (.t 0) 2⟩,
    ⟨(some 2), none, .new (.agg [(.int .i64 0), (.sl [] .tight)]) 2⟩])
  (.seq (.region [⟨(some 3), none, .addr (.t 1) 0⟩,
    ⟨(some 4), none, .load (.t 3) none⟩,
    ⟨(some 5), none, .lit false 37 5 []⟩,
    ⟨(some 6), none, .addr (.t 1) 1⟩,
    ⟨(some 7), none, .load (.t 6) none⟩,
    ⟨(some 8), none, .app0 (.t 5) (.t 7) 37 5 40⟩,
    ⟨(some 9), none, .build [(.int .i64 0), (.sl [] .tight)] [(0, 1, (.t 4)), (1, 1, (.t 8))]⟩,
    ⟨none, none, .store (.t 2) (.t 9) 2⟩])
  (.ret))
def r16 : List Res := [.cell 2 (some 2)]
def a16 : AFn := ⟨1, c16, r16, .o⟩

/-- bijou/reel.Many -/
def c17 : ACode := .seq (.region [⟨(some 1), none, .box (.t 0) 2⟩,
    ⟨(some 2), none, .mov (.c (.int .i64 0))⟩,
    ⟨(some 3), none, .mov (.c (.int .i64 0))⟩])
  (.seq (.seq (.region [⟨(some 5), none, .load (.t 1) (some 2)⟩,
    ⟨(some 6), none, .call 21 [(.t 5)]⟩,
    ⟨(some 4), none, .mov (.t 6)⟩])
  (.seq (.region [⟨(some 7), none, .mov (.t 4)⟩,
    ⟨(some 8), none, .bin .neq (.t 7) (.c (.int .i64 0))⟩])
  (.cond (.t 8) (.seq (.region [⟨(some 9), none, .mov (.t 4)⟩,
    ⟨(some 2), none, .mov (.c (.int .i64 0))⟩,
    ⟨(some 3), none, .mov (.t 9)⟩])
  (.ret))
  (.skip))))
  (.seq (.region [⟨(some 10), none, .load (.t 1) (some 2)⟩,
    ⟨(some 11), none, .call 52 [(.t 10)]⟩,
    ⟨(some 12), none, .len (.t 11)⟩,
    ⟨(some 2), none, .mov (.t 12)⟩,
    ⟨(some 3), none, .mov (.c (.int .i64 0))⟩])
  (.ret)))
def r17 : List Res := [.t 2, .t 3]
def a17 : AFn := ⟨1, c17, r17, .v⟩

/-- bijou/bijouref01.Many -/
def c18 : ACode := .seq (.region [⟨(some 1), none, .box (.t 0) 2⟩,
    ⟨(some 2), none, .mov (.c (.int .i64 0))⟩,
    ⟨(some 3), none, .mov (.c (.int .i64 0))⟩])
  (.seq (.seq (.region [⟨(some 5), none, .load (.t 1) (some 2)⟩,
    ⟨(some 6), none, .call 22 [(.t 5)]⟩,
    ⟨(some 4), none, .mov (.t 6)⟩])
  (.seq (.region [⟨(some 7), none, .mov (.t 4)⟩,
    ⟨(some 8), none, .bin .neq (.t 7) (.c (.int .i64 0))⟩])
  (.cond (.t 8) (.seq (.region [⟨(some 9), none, .mov (.t 4)⟩,
    ⟨(some 2), none, .mov (.c (.int .i64 0))⟩,
    ⟨(some 3), none, .mov (.t 9)⟩])
  (.ret))
  (.skip))))
  (.seq (.region [⟨(some 10), none, .load (.t 1) (some 2)⟩,
    ⟨(some 11), none, .call 53 [(.t 10)]⟩,
    ⟨(some 12), none, .len (.t 11)⟩,
    ⟨(some 2), none, .mov (.t 12)⟩,
    ⟨(some 3), none, .mov (.c (.int .i64 0))⟩])
  (.ret)))
def r18 : List Res := [.t 2, .t 3]
def a18 : AFn := ⟨1, c18, r18, .v⟩

/-- bijou/reel.Fewest -/
def c19 : ACode := .seq (.region [⟨(some 1), none, .box (.t 0) 2⟩,
    ⟨(some 2), none, .mov (.c (.int .i64 0))⟩,
    ⟨(some 3), none, .mov (.c (.int .i64 0))⟩])
  (.seq (.seq (.region [⟨(some 5), none, .load (.t 1) (some 2)⟩,
    ⟨(some 6), none, .call 21 [(.t 5)]⟩,
    ⟨(some 4), none, .mov (.t 6)⟩])
  (.seq (.region [⟨(some 7), none, .mov (.t 4)⟩,
    ⟨(some 8), none, .bin .neq (.t 7) (.c (.int .i64 0))⟩])
  (.cond (.t 8) (.seq (.region [⟨(some 9), none, .mov (.t 4)⟩,
    ⟨(some 2), none, .mov (.c (.int .i64 0))⟩,
    ⟨(some 3), none, .mov (.t 9)⟩])
  (.ret))
  (.skip))))
  (.seq (.region [⟨(some 10), none, .load (.t 1) (some 2)⟩,
    ⟨(some 11), none, .call 54 [(.t 10)]⟩,
    ⟨(some 2), none, .mov (.t 11)⟩,
    ⟨(some 3), none, .mov (.c (.int .i64 0))⟩])
  (.ret)))
def r19 : List Res := [.t 2, .t 3]
def a19 : AFn := ⟨1, c19, r19, .v⟩

/-- bijou/bijouref01.Fewest -/
def c20 : ACode := .seq (.region [⟨(some 1), none, .box (.t 0) 2⟩,
    ⟨(some 2), none, .mov (.c (.int .i64 0))⟩,
    ⟨(some 3), none, .mov (.c (.int .i64 0))⟩])
  (.seq (.seq (.region [⟨(some 8), none, .load (.t 1) (some 2)⟩,
    ⟨(some 9), none, .call 22 [(.t 8)]⟩,
    ⟨(some 4), none, .mov (.t 9)⟩])
  (.seq (.region [⟨(some 10), none, .mov (.t 4)⟩,
    ⟨(some 11), none, .bin .neq (.t 10) (.c (.int .i64 0))⟩])
  (.cond (.t 11) (.seq (.region [⟨(some 12), none, .mov (.t 4)⟩,
    ⟨(some 2), none, .mov (.c (.int .i64 0))⟩,
    ⟨(some 3), none, .mov (.t 12)⟩])
  (.ret))
  (.skip))))
  (.seq (.region [⟨(some 5), none, .mov (.c (.int .i64 11))⟩])
  (.seq (.region [⟨(some 13), none, .load (.t 1) (some 2)⟩,
    ⟨(some 14), none, .call 55 [(.t 13)]⟩,
    ⟨(some 6), none, .mov (.t 14)⟩])
  (.seq (.seq (.region [⟨(some 7), none, .mov (.c (.int .i64 0))⟩])
  (.block 0 (.loop (.seq (.seq (.region [⟨(some 15), none, .mov (.t 7)⟩,
    ⟨(some 16), none, .mov (.t 6)⟩,
    ⟨(some 17), none, .len (.t 16)⟩,
    ⟨(some 18), none, .bin .lss (.t 15) (.t 17)⟩])
  (.cond (.t 18) (.skip)
  (.exit 0)))
  (.seq (.block 1 (.region [⟨(some 21), none, .mov (.t 5)⟩,
    ⟨(some 22), none, .mov (.t 6)⟩,
    ⟨(some 23), none, .mov (.t 7)⟩,
    ⟨(some 24), none, .idx (.t 22) (.t 23) 1⟩,
    ⟨(some 25), none, .load (.t 24) none⟩,
    ⟨(some 26), none, .mnx false (.t 21) (.t 25)⟩,
    ⟨(some 5), none, .mov (.t 26)⟩]))
  (.region [⟨(some 19), none, .mov (.t 7)⟩,
    ⟨(some 20), none, .bin .add (.t 19) (.c (.int .i64 1))⟩,
    ⟨(some 7), none, .mov (.t 20)⟩]))))))
  (.seq (.region [⟨(some 27), none, .mov (.t 5)⟩,
    ⟨(some 2), none, .mov (.t 27)⟩,
    ⟨(some 3), none, .mov (.c (.int .i64 0))⟩])
  (.ret))))))
def r20 : List Res := [.t 2, .t 3]
def a20 : AFn := ⟨1, c20, r20, .v⟩

/-- bijou/reel.Check -/
def c21 : ACode := .seq (.region [⟨(some 1), none, .box (.t 0) 2⟩,
    ⟨(some 2), none, .mov (.c (.int .i64 0))⟩])
  (.seq (.seq (.region [⟨(some 4), none, .addr (.t 1) 0⟩,
    ⟨(some 5), none, .load (.t 4) none⟩,
    ⟨(some 6), none, .bin .lss (.t 5) (.c (.int .i64 1))⟩,
    ⟨(some 7), none, .mov (.t 6)⟩,
    ⟨(some 8), some (7, false), .addr (.t 1) 0⟩,
    ⟨(some 9), some (7, false), .load (.t 8) none⟩,
    ⟨(some 10), some (7, false), .bin .gtr (.t 9) (.c (.int .i64 16))⟩,
    ⟨(some 11), none, .pick (.t 7) (.c (.bool true)) (.t 10)⟩,
    ⟨(some 12), none, .mov (.t 11)⟩,
    ⟨(some 13), some (12, false), .addr (.t 1) 1⟩,
    ⟨(some 14), some (12, false), .load (.t 13) none⟩,
    ⟨(some 15), some (12, false), .len (.t 14)⟩,
    ⟨(some 16), some (12, false), .bin .gtr (.t 15) (.c (.int .i64 10))⟩,
    ⟨(some 17), none, .pick (.t 12) (.c (.bool true)) (.t 16)⟩])
  (.cond (.t 17) (.seq (.region [⟨(some 2), none, .mov (.c (.int .i64 10))⟩])
  (.ret))
  (.skip)))
  (.seq (.region [⟨(some 18), none, .clo 56 [] [(.t 1)]⟩,
    ⟨(some 3), none, .mov (.t 18)⟩])
  (.seq (.seq (.region [⟨(some 19), none, .addr (.t 1) 1⟩,
    ⟨(some 20), none, .load (.t 19) none⟩,
    ⟨(some 21), none, .mov (.t 3)⟩,
    ⟨(some 22), none, .call 58 [(.t 20), (.t 21)]⟩])
  (.cond (.t 22) (.seq (.region [⟨(some 2), none, .mov (.c (.int .i64 11))⟩])
  (.ret))
  (.skip)))
  (.seq (.region [⟨(some 2), none, .mov (.c (.int .i64 0))⟩])
  (.ret)))))
def r21 : List Res := [.t 2]
def a21 : AFn := ⟨1, c21, r21, .v⟩

/-- bijou/bijouref01.Check -/
def c22 : ACode := .seq (.region [⟨(some 1), none, .box (.t 0) 2⟩,
    ⟨(some 2), none, .mov (.c (.int .i64 0))⟩])
  (.seq (.seq (.region [⟨(some 4), none, .addr (.t 1) 0⟩,
    ⟨(some 5), none, .load (.t 4) none⟩,
    ⟨(some 6), none, .call 59 [(.t 5), (.c (.int .i64 1)), (.c (.int .i64 16))]⟩,
    ⟨(some 7), none, .not (.t 6)⟩,
    ⟨(some 8), none, .mov (.t 7)⟩,
    ⟨(some 9), some (8, false), .addr (.t 1) 1⟩,
    ⟨(some 10), some (8, false), .load (.t 9) none⟩,
    ⟨(some 11), some (8, false), .len (.t 10)⟩,
    ⟨(some 12), some (8, false), .bin .gtr (.t 11) (.c (.int .i64 10))⟩,
    ⟨(some 13), none, .pick (.t 8) (.c (.bool true)) (.t 12)⟩])
  (.cond (.t 13) (.seq (.region [⟨(some 2), none, .mov (.c (.int .i64 10))⟩])
  (.ret))
  (.skip)))
  (.seq (.seq (.region [⟨(some 3), none, .mov (.c (.int .i64 0))⟩])
  (.block 0 (.loop (.seq (.seq (.region [⟨(some 14), none, .mov (.t 3)⟩,
    ⟨(some 15), none, .addr (.t 1) 1⟩,
    ⟨(some 16), none, .load (.t 15) none⟩,
    ⟨(some 17), none, .len (.t 16)⟩,
    ⟨(some 18), none, .bin .lss (.t 14) (.t 17)⟩])
  (.cond (.t 18) (.skip)
  (.exit 0)))
  (.seq (.block 1 (.seq (.region [⟨(some 21), none, .addr (.t 1) 0⟩,
    ⟨(some 22), none, .load (.t 21) none⟩,
    ⟨(some 23), none, .addr (.t 1) 1⟩,
    ⟨(some 24), none, .load (.t 23) none⟩,
    ⟨(some 25), none, .mov (.t 3)⟩,
    ⟨(some 26), none, .idx (.t 24) (.t 25) 5⟩,
    ⟨(some 27), none, .load (.t 26) (some 5)⟩,
    ⟨(some 28), none, .call 60 [(.t 22), (.t 27)]⟩,
    ⟨(some 29), none, .not (.t 28)⟩])
  (.cond (.t 29) (.seq (.region [⟨(some 2), none, .mov (.c (.int .i64 11))⟩])
  (.ret))
  (.skip))))
  (.region [⟨(some 19), none, .mov (.t 3)⟩,
    ⟨(some 20), none, .bin .add (.t 19) (.c (.int .i64 1))⟩,
    ⟨(some 3), none, .mov (.t 20)⟩]))))))
  (.seq (.region [⟨(some 2), none, .mov (.c (.int .i64 0))⟩])
  (.ret))))
def r22 : List Res := [.t 2]
def a22 : AFn := ⟨1, c22, r22, .v⟩

/-- bijou/reel.Left -/
def c23 : ACode := .seq (.region [⟨(some 1), none, .box (.t 0) 2⟩,
    ⟨(some 2), none, .new (.agg [(.int .i64 0), (.int .i64 0)]) 2⟩,
    ⟨(some 3), none, .mov (.c (.int .i64 0))⟩])
  (.seq (.region [⟨(some 4), none, .load (.t 1) (some 2)⟩,
    ⟨(some 5), none, .call 61 [(.t 4), (.c (.fn 62 [] []))]⟩,
    ⟨(some 6), none, .ext (.t 5) 0⟩,
    ⟨(some 7), none, .ext (.t 5) 1⟩,
    ⟨none, none, .store (.t 2) (.t 6) 2⟩,
    ⟨(some 3), none, .mov (.t 7)⟩])
  (.ret))
def r23 : List Res := [.cell 2 (some 2), .t 3]
def a23 : AFn := ⟨1, c23, r23, .v⟩

/-- bijou/bijouref01.Left -/
def c24 : ACode := .seq (.region [⟨(some 1), none, .box (.t 0) 2⟩,
    ⟨(some 2), none, .new (.agg [(.int .i64 0), (.int .i64 0)]) 2⟩,
    ⟨(some 3), none, .mov (.c (.int .i64 0))⟩])
  (.seq (.region [⟨(some 4), none, .load (.t 1) (some 2)⟩,
    ⟨(some 5), none, .addr (.t 1) 0⟩,
    ⟨(some 6), none, .load (.t 5) none⟩,
    ⟨(some 7), none, .bin .sub (.t 6) (.c (.int .i64 1))⟩,
    ⟨(some 8), none, .call 63 [(.t 4), (.c (.int .i64 0)), (.t 7)]⟩,
    ⟨(some 9), none, .ext (.t 8) 0⟩,
    ⟨(some 10), none, .ext (.t 8) 1⟩,
    ⟨none, none, .store (.t 2) (.t 9) 2⟩,
    ⟨(some 3), none, .mov (.t 10)⟩])
  (.ret))
def r24 : List Res := [.cell 2 (some 2), .t 3]
def a24 : AFn := ⟨1, c24, r24, .v⟩

/-- bijou/reel.Splices -/
def c25 : ACode := .seq (.region [⟨(some 1), none, .box (.t 0) 2⟩,
    ⟨(some 2), none, .new (.agg [(.int .i64 0), (.int .i64 0)]) 2⟩,
    ⟨(some 3), none, .mov (.c (.int .i64 0))⟩])
  (.seq (.region [⟨(some 4), none, .load (.t 1) (some 2)⟩,
    ⟨(some 5), none, .call 61 [(.t 4), (.c (.fn 64 [] []))]⟩,
    ⟨(some 6), none, .ext (.t 5) 0⟩,
    ⟨(some 7), none, .ext (.t 5) 1⟩,
    ⟨none, none, .store (.t 2) (.t 6) 2⟩,
    ⟨(some 3), none, .mov (.t 7)⟩])
  (.ret))
def r25 : List Res := [.cell 2 (some 2), .t 3]
def a25 : AFn := ⟨1, c25, r25, .v⟩

/-- bijou/bijouref01.Splices -/
def c26 : ACode := .seq (.region [⟨(some 1), none, .box (.t 0) 2⟩,
    ⟨(some 2), none, .new (.agg [(.int .i64 0), (.int .i64 0)]) 2⟩,
    ⟨(some 3), none, .mov (.c (.int .i64 0))⟩])
  (.seq (.region [⟨(some 4), none, .new (.agg [(.int .i64 0), (.int .i64 0)]) 2⟩])
  (.seq (.region [⟨(some 9), none, .load (.t 1) (some 2)⟩,
    ⟨(some 10), none, .call 65 [(.t 9)]⟩,
    ⟨(some 8), none, .mov (.t 10)⟩,
    ⟨(some 11), none, .ext (.t 8) 0⟩,
    ⟨(some 12), none, .ext (.t 8) 1⟩,
    ⟨(some 5), none, .mov (.t 11)⟩,
    ⟨(some 6), none, .mov (.t 12)⟩])
  (.seq (.seq (.region [⟨(some 7), none, .mov (.c (.int .i64 0))⟩])
  (.block 0 (.loop (.seq (.seq (.region [⟨(some 13), none, .mov (.t 7)⟩,
    ⟨(some 14), none, .mov (.t 5)⟩,
    ⟨(some 15), none, .len (.t 14)⟩,
    ⟨(some 16), none, .bin .lss (.t 13) (.t 15)⟩])
  (.cond (.t 16) (.skip)
  (.exit 0)))
  (.seq (.block 1 (.region [⟨(some 19), none, .load (.t 4) (some 2)⟩,
    ⟨(some 20), none, .mov (.t 5)⟩,
    ⟨(some 21), none, .mov (.t 7)⟩,
    ⟨(some 22), none, .idx (.t 20) (.t 21) 1⟩,
    ⟨(some 23), none, .load (.t 22) none⟩,
    ⟨(some 24), none, .addr (.t 1) 0⟩,
    ⟨(some 25), none, .load (.t 24) none⟩,
    ⟨(some 26), none, .call 44 [(.t 23), (.t 25)]⟩,
    ⟨(some 27), none, .mov (.t 7)⟩,
    ⟨(some 28), none, .bin .eql (.t 27) (.c (.int .i64 0))⟩,
    ⟨(some 29), none, .call 66 [(.t 19), (.t 26), (.t 28)]⟩,
    ⟨none, none, .store (.t 4) (.t 29) 2⟩]))
  (.region [⟨(some 17), none, .mov (.t 7)⟩,
    ⟨(some 18), none, .bin .add (.t 17) (.c (.int .i64 1))⟩,
    ⟨(some 7), none, .mov (.t 18)⟩]))))))
  (.seq (.region [⟨(some 30), none, .load (.t 4) (some 2)⟩,
    ⟨(some 31), none, .mov (.t 6)⟩,
    ⟨none, none, .store (.t 2) (.t 30) 2⟩,
    ⟨(some 3), none, .mov (.t 31)⟩])
  (.ret)))))
def r26 : List Res := [.cell 2 (some 2), .t 3]
def a26 : AFn := ⟨1, c26, r26, .v⟩

/-- bijou/reel.Longest -/
def c27 : ACode := .seq (.region [⟨(some 1), none, .box (.t 0) 2⟩,
    ⟨(some 2), none, .new (.agg [(.int .i64 0), (.int .i64 0)]) 2⟩,
    ⟨(some 3), none, .mov (.c (.int .i64 0))⟩])
  (.seq (.region [⟨(some 4), none, .load (.t 1) (some 2)⟩,
    ⟨(some 5), none, .call 61 [(.t 4), (.c (.fn 67 [] []))]⟩,
    ⟨(some 6), none, .ext (.t 5) 0⟩,
    ⟨(some 7), none, .ext (.t 5) 1⟩,
    ⟨none, none, .store (.t 2) (.t 6) 2⟩,
    ⟨(some 3), none, .mov (.t 7)⟩])
  (.ret))
def r27 : List Res := [.cell 2 (some 2), .t 3]
def a27 : AFn := ⟨1, c27, r27, .v⟩

/-- bijou/bijouref01.Longest -/
def c28 : ACode := .seq (.region [⟨(some 1), none, .box (.t 0) 2⟩,
    ⟨(some 2), none, .new (.agg [(.int .i64 0), (.int .i64 0)]) 2⟩,
    ⟨(some 3), none, .mov (.c (.int .i64 0))⟩])
  (.seq (.region [⟨(some 4), none, .new (.agg [(.int .i64 0), (.int .i64 0)]) 2⟩])
  (.seq (.region [⟨(some 9), none, .load (.t 1) (some 2)⟩,
    ⟨(some 10), none, .call 65 [(.t 9)]⟩,
    ⟨(some 8), none, .mov (.t 10)⟩,
    ⟨(some 11), none, .ext (.t 8) 0⟩,
    ⟨(some 12), none, .ext (.t 8) 1⟩,
    ⟨(some 5), none, .mov (.t 11)⟩,
    ⟨(some 6), none, .mov (.t 12)⟩])
  (.seq (.seq (.region [⟨(some 7), none, .mov (.c (.int .i64 0))⟩])
  (.block 0 (.loop (.seq (.seq (.region [⟨(some 13), none, .mov (.t 7)⟩,
    ⟨(some 14), none, .mov (.t 5)⟩,
    ⟨(some 15), none, .len (.t 14)⟩,
    ⟨(some 16), none, .bin .lss (.t 13) (.t 15)⟩])
  (.cond (.t 16) (.skip)
  (.exit 0)))
  (.seq (.block 1 (.region [⟨(some 19), none, .load (.t 4) (some 2)⟩,
    ⟨(some 20), none, .mov (.t 5)⟩,
    ⟨(some 21), none, .mov (.t 7)⟩,
    ⟨(some 22), none, .idx (.t 20) (.t 21) 1⟩,
    ⟨(some 23), none, .load (.t 22) none⟩,
    ⟨(some 24), none, .addr (.t 1) 0⟩,
    ⟨(some 25), none, .load (.t 24) none⟩,
    ⟨(some 26), none, .call 45 [(.t 23), (.t 25)]⟩,
    ⟨(some 27), none, .mov (.t 7)⟩,
    ⟨(some 28), none, .bin .eql (.t 27) (.c (.int .i64 0))⟩,
    ⟨(some 29), none, .call 66 [(.t 19), (.t 26), (.t 28)]⟩,
    ⟨none, none, .store (.t 4) (.t 29) 2⟩]))
  (.region [⟨(some 17), none, .mov (.t 7)⟩,
    ⟨(some 18), none, .bin .add (.t 17) (.c (.int .i64 1))⟩,
    ⟨(some 7), none, .mov (.t 18)⟩]))))))
  (.seq (.region [⟨(some 30), none, .load (.t 4) (some 2)⟩,
    ⟨(some 31), none, .mov (.t 6)⟩,
    ⟨none, none, .store (.t 2) (.t 30) 2⟩,
    ⟨(some 3), none, .mov (.t 31)⟩])
  (.ret)))))
def r28 : List Res := [.cell 2 (some 2), .t 3]
def a28 : AFn := ⟨1, c28, r28, .v⟩

/-- bijou/reel.Foot -/
def c29 : ACode := .seq (.region [⟨(some 2), none, .box (.t 0) 2⟩,
    ⟨(some 4), none, .mov (.c (.int .i64 0))⟩,
    ⟨(some 5), none, .mov (.c (.int .i64 0))⟩])
  (.seq (.region [⟨(some 9), none, .load (.t 2) (some 2)⟩,
    ⟨(some 10), none, .mov (.t 1)⟩,
    ⟨(some 11), none, .mov (.t 1)⟩,
    ⟨(some 12), none, .call 31 [(.t 9), (.t 10), (.t 11)]⟩,
    ⟨(some 8), none, .mov (.t 12)⟩,
    ⟨(some 13), none, .ext (.t 8) 0⟩,
    ⟨(some 14), none, .ext (.t 8) 1⟩,
    ⟨(some 6), none, .new (.agg [(.int .i64 0), (.int .i64 0)]) 2⟩,
    ⟨none, none, .store (.t 6) (.t 13) 2⟩,
    ⟨(some 7), none, .mov (.t 14)⟩])
  (.seq (.block 0 (.seq (.region [⟨(some 16), none, .mov (.t 7)⟩,
    ⟨(some 17), none, .bin .neq (.t 16) (.c (.int .i64 0))⟩,
    ⟨(some 15), none, .mov (.t 17)⟩])
  (.cond (.t 15) (.seq (.region [⟨(some 18), none, .mov (.t 7)⟩,
    ⟨(some 4), none, .mov (.c (.int .i64 0))⟩,
    ⟨(some 5), none, .mov (.t 18)⟩])
  (.ret))
  (.seq (.region [⟨(some 20), none, .addr (.t 6) 0⟩,
    ⟨(some 21), none, .load (.t 20) none⟩,
    ⟨(some 22), none, .bin .eql (.t 21) (.c (.int .i64 1))⟩,
    ⟨(some 19), none, .mov (.t 22)⟩])
  (.cond (.t 19) (.seq (.region [⟨(some 4), none, .mov (.c (.int .i64 1))⟩,
    ⟨(some 5), none, .mov (.c (.int .i64 0))⟩])
  (.ret))
  (.seq (.region [⟨(some 24), none, .addr (.t 6) 1⟩,
    ⟨(some 25), none, .load (.t 24) none⟩,
    ⟨(some 26), none, .bin .eql (.t 25) (.c (.int .i64 0))⟩,
    ⟨(some 23), none, .mov (.t 26)⟩])
  (.cond (.t 23) (.seq (.region [⟨(some 4), none, .mov (.c (.int .i64 2))⟩,
    ⟨(some 5), none, .mov (.c (.int .i64 0))⟩])
  (.ret))
  (.skip))))))))
  (.seq (.region [⟨(some 4), none, .mov (.c (.int .i64 3))⟩,
    ⟨(some 5), none, .mov (.c (.int .i64 0))⟩])
  (.ret))))
def r29 : List Res := [.t 4, .t 5]
def a29 : AFn := ⟨2, c29, r29, .v⟩

/-- bijou/bijouref01.Foot -/
def c30 : ACode := .seq (.region [⟨(some 2), none, .box (.t 0) 2⟩,
    ⟨(some 4), none, .mov (.c (.int .i64 0))⟩,
    ⟨(some 5), none, .mov (.c (.int .i64 0))⟩])
  (.seq (.seq (.region [⟨(some 9), none, .load (.t 2) (some 2)⟩,
    ⟨(some 10), none, .call 22 [(.t 9)]⟩,
    ⟨(some 6), none, .mov (.t 10)⟩])
  (.seq (.region [⟨(some 11), none, .mov (.t 6)⟩,
    ⟨(some 12), none, .bin .neq (.t 11) (.c (.int .i64 0))⟩])
  (.cond (.t 12) (.seq (.region [⟨(some 13), none, .mov (.t 6)⟩,
    ⟨(some 4), none, .mov (.c (.int .i64 0))⟩,
    ⟨(some 5), none, .mov (.t 13)⟩])
  (.ret))
  (.skip))))
  (.seq (.seq (.region [⟨(some 14), none, .mov (.t 1)⟩,
    ⟨(some 15), none, .addr (.t 2) 0⟩,
    ⟨(some 16), none, .load (.t 15) none⟩,
    ⟨(some 17), none, .bin .sub (.t 16) (.c (.int .i64 1))⟩,
    ⟨(some 18), none, .call 59 [(.t 14), (.c (.int .i64 0)), (.t 17)]⟩,
    ⟨(some 19), none, .not (.t 18)⟩])
  (.cond (.t 19) (.seq (.region [⟨(some 4), none, .mov (.c (.int .i64 0))⟩,
    ⟨(some 5), none, .mov (.c (.int .i64 1))⟩])
  (.ret))
  (.skip)))
  (.seq (.region [⟨(some 21), none, .load (.t 2) (some 2)⟩,
    ⟨(some 22), none, .call 65 [(.t 21)]⟩,
    ⟨(some 20), none, .mov (.t 22)⟩,
    ⟨(some 23), none, .ext (.t 20) 0⟩,
    ⟨(some 24), none, .ext (.t 20) 1⟩,
    ⟨(some 7), none, .mov (.t 23)⟩,
    ⟨(some 8), none, .mov (.t 24)⟩])
  (.seq (.seq (.region [⟨(some 25), none, .mov (.t 8)⟩,
    ⟨(some 26), none, .bin .neq (.t 25) (.c (.int .i64 0))⟩])
  (.cond (.t 26) (.seq (.region [⟨(some 27), none, .mov (.t 8)⟩,
    ⟨(some 4), none, .mov (.c (.int .i64 0))⟩,
    ⟨(some 5), none, .mov (.t 27)⟩])
  (.ret))
  (.skip)))
  (.seq (.region [⟨(some 28), none, .mov (.t 7)⟩,
    ⟨(some 29), none, .mov (.t 1)⟩,
    ⟨(some 30), none, .call 68 [(.t 28), (.t 29)]⟩,
    ⟨(some 4), none, .mov (.t 30)⟩,
    ⟨(some 5), none, .mov (.c (.int .i64 0))⟩])
  (.ret))))))
def r30 : List Res := [.t 4, .t 5]
def a30 : AFn := ⟨2, c30, r30, .v⟩

/-- bijou/reel.Whole -/
def c31 : ACode := .seq (.region [⟨(some 3), none, .box (.t 0) 2⟩,
    ⟨(some 6), none, .new (.agg [(.int .i64 0), (.int .i64 0)]) 2⟩,
    ⟨(some 7), none, .mov (.c (.int .i64 0))⟩])
  (.seq (.seq (.region [⟨(some 10), none, .load (.t 3) (some 2)⟩,
    ⟨(some 11), none, .call 21 [(.t 10)]⟩,
    ⟨(some 8), none, .mov (.t 11)⟩])
  (.seq (.region [⟨(some 12), none, .mov (.t 8)⟩,
    ⟨(some 13), none, .bin .neq (.t 12) (.c (.int .i64 0))⟩])
  (.cond (.t 13) (.seq (.region [⟨(some 14), none, .build [(.int .i64 0), (.int .i64 0)] []⟩,
    ⟨(some 15), none, .mov (.t 8)⟩,
    ⟨none, none, .store (.t 6) (.t 14) 2⟩,
    ⟨(some 7), none, .mov (.t 15)⟩])
  (.ret))
  (.skip))))
  (.seq (.seq (.region [⟨(some 16), none, .mov (.t 1)⟩,
    ⟨(some 17), none, .mov (.t 2)⟩,
    ⟨(some 18), none, .addr (.t 3) 0⟩,
    ⟨(some 19), none, .load (.t 18) none⟩,
    ⟨(some 20), none, .call 69 [(.t 16), (.t 17), (.t 19)]⟩,
    ⟨(some 21), none, .not (.t 20)⟩])
  (.cond (.t 21) (.seq (.region [⟨(some 22), none, .build [(.int .i64 0), (.int .i64 0)] []⟩,
    ⟨none, none, .store (.t 6) (.t 22) 2⟩,
    ⟨(some 7), none, .mov (.c (.int .i64 1))⟩])
  (.ret))
  (.skip)))
  (.seq (.region [⟨(some 23), none, .mov (.t 1)⟩,
    ⟨(some 24), none, .mov (.t 2)⟩,
    ⟨(some 25), none, .call 70 [(.t 23), (.t 24)]⟩,
    ⟨(some 9), none, .new (.int .u16 0) 1⟩,
    ⟨none, none, .store (.t 9) (.t 25) 1⟩])
  (.seq (.region [⟨(some 26), none, .load (.t 3) (some 2)⟩,
    ⟨(some 27), none, .clo 71 [] [(.t 9)]⟩,
    ⟨(some 28), none, .call 61 [(.t 26), (.t 27)]⟩,
    ⟨(some 29), none, .ext (.t 28) 0⟩,
    ⟨(some 30), none, .ext (.t 28) 1⟩,
    ⟨none, none, .store (.t 6) (.t 29) 2⟩,
    ⟨(some 7), none, .mov (.t 30)⟩])
  (.ret)))))
def r31 : List Res := [.cell 6 (some 2), .t 7]
def a31 : AFn := ⟨3, c31, r31, .v⟩

/-- bijou/bijouref01.Whole -/
def c32 : ACode := .seq (.region [⟨(some 3), none, .box (.t 0) 2⟩,
    ⟨(some 6), none, .new (.agg [(.int .i64 0), (.int .i64 0)]) 2⟩,
    ⟨(some 7), none, .mov (.c (.int .i64 0))⟩])
  (.seq (.seq (.region [⟨(some 9), none, .load (.t 3) (some 2)⟩,
    ⟨(some 10), none, .call 22 [(.t 9)]⟩,
    ⟨(some 8), none, .mov (.t 10)⟩])
  (.seq (.region [⟨(some 11), none, .mov (.t 8)⟩,
    ⟨(some 12), none, .bin .neq (.t 11) (.c (.int .i64 0))⟩])
  (.cond (.t 12) (.seq (.region [⟨(some 13), none, .build [(.int .i64 0), (.int .i64 0)] []⟩,
    ⟨(some 14), none, .mov (.t 8)⟩,
    ⟨none, none, .store (.t 6) (.t 13) 2⟩,
    ⟨(some 7), none, .mov (.t 14)⟩])
  (.ret))
  (.skip))))
  (.seq (.seq (.region [⟨(some 15), none, .mov (.t 1)⟩,
    ⟨(some 16), none, .mov (.t 2)⟩,
    ⟨(some 17), none, .call 59 [(.t 15), (.c (.int .i64 0)), (.t 16)]⟩,
    ⟨(some 18), none, .not (.t 17)⟩,
    ⟨(some 19), none, .mov (.t 18)⟩,
    ⟨(some 20), some (19, false), .mov (.t 2)⟩,
    ⟨(some 21), some (19, false), .addr (.t 3) 0⟩,
    ⟨(some 22), some (19, false), .load (.t 21) none⟩,
    ⟨(some 23), some (19, false), .bin .geq (.t 20) (.t 22)⟩,
    ⟨(some 24), none, .pick (.t 19) (.c (.bool true)) (.t 23)⟩])
  (.cond (.t 24) (.seq (.region [⟨(some 25), none, .build [(.int .i64 0), (.int .i64 0)] []⟩,
    ⟨none, none, .store (.t 6) (.t 25) 2⟩,
    ⟨(some 7), none, .mov (.c (.int .i64 1))⟩])
  (.ret))
  (.skip)))
  (.seq (.region [⟨(some 26), none, .load (.t 3) (some 2)⟩,
    ⟨(some 27), none, .mov (.t 1)⟩,
    ⟨(some 28), none, .mov (.t 2)⟩,
    ⟨(some 29), none, .call 63 [(.t 26), (.t 27), (.t 28)]⟩,
    ⟨(some 30), none, .ext (.t 29) 0⟩,
    ⟨(some 31), none, .ext (.t 29) 1⟩,
    ⟨none, none, .store (.t 6) (.t 30) 2⟩,
    ⟨(some 7), none, .mov (.t 31)⟩])
  (.ret))))
def r32 : List Res := [.cell 6 (some 2), .t 7]
def a32 : AFn := ⟨3, c32, r32, .v⟩

/-- bijou/reel.Show -/
def c33 : ACode := .seq (.region [⟨(some 1), none, .box (.t 0) 2⟩,
    ⟨(some 2), none, .mov (.c (.sl [] .tight))⟩,
    ⟨(some 3), none, .mov (.c (.int .i64 0))⟩])
  (.seq (.seq (.region [⟨(some 6), none, .load (.t 1) (some 2)⟩,
    ⟨(some 7), none, .call 21 [(.t 6)]⟩,
    ⟨(some 4), none, .mov (.t 7)⟩])
  (.seq (.region [⟨(some 8), none, .mov (.t 4)⟩,
    ⟨(some 9), none, .bin .neq (.t 8) (.c (.int .i64 0))⟩])
  (.cond (.t 9) (.seq (.region [⟨(some 10), none, .mov (.t 4)⟩,
    ⟨(some 2), none, .mov (.c (.sl [] .tight))⟩,
    ⟨(some 3), none, .mov (.t 10)⟩])
  (.ret))
  (.skip))))
  (.seq (.region [⟨(some 11), none, .load (.t 1) (some 2)⟩,
    ⟨(some 12), none, .call 52 [(.t 11)]⟩,
    ⟨(some 5), none, .mov (.t 12)⟩])
  (.seq (.seq (.region [⟨(some 13), none, .mov (.t 5)⟩,
    ⟨(some 14), none, .len (.t 13)⟩,
    ⟨(some 15), none, .bin .eql (.t 14) (.c (.int .i64 0))⟩])
  (.cond (.t 15) (.seq (.region [⟨(some 2), none, .mov (.c (.sl [] .tight))⟩,
    ⟨(some 3), none, .mov (.c (.int .i64 3))⟩])
  (.ret))
  (.skip)))
  (.seq (.region [⟨(some 16), none, .mov (.t 5)⟩,
    ⟨(some 17), none, .idx (.t 16) (.c (.int .i64 0)) 1⟩,
    ⟨(some 18), none, .load (.t 17) none⟩,
    ⟨(some 19), none, .addr (.t 1) 0⟩,
    ⟨(some 20), none, .load (.t 19) none⟩,
    ⟨(some 21), none, .call 72 [(.t 18), (.t 20)]⟩,
    ⟨(some 2), none, .mov (.t 21)⟩,
    ⟨(some 3), none, .mov (.c (.int .i64 0))⟩])
  (.ret)))))
def r33 : List Res := [.t 2, .t 3]
def a33 : AFn := ⟨1, c33, r33, .v⟩

/-- bijou/bijouref01.CheckShow -/
def c34 : ACode := .seq (.region [⟨(some 1), none, .box (.t 0) 2⟩,
    ⟨(some 2), none, .mov (.c (.int .i64 0))⟩])
  (.seq (.region [⟨(some 6), none, .load (.t 1) (some 2)⟩,
    ⟨(some 7), none, .call 65 [(.t 6)]⟩,
    ⟨(some 5), none, .mov (.t 7)⟩,
    ⟨(some 8), none, .ext (.t 5) 0⟩,
    ⟨(some 9), none, .ext (.t 5) 1⟩,
    ⟨(some 3), none, .mov (.t 8)⟩,
    ⟨(some 4), none, .mov (.t 9)⟩])
  (.seq (.region [⟨(some 10), none, .mov (.t 4)⟩,
    ⟨(some 2), none, .mov (.t 10)⟩])
  (.ret)))
def r34 : List Res := [.t 2]
def a34 : AFn := ⟨1, c34, r34, .v⟩

/-- bijou/bijouref01.Set -/
def c35 : ACode := .seq (.region [⟨(some 4), none, .mov (.c (.int .i64 0))⟩,
    ⟨(some 5), none, .mov (.c (.bool false))⟩])
  (.seq (.region [⟨(some 6), none, .mov (.c (.int .i64 0))⟩])
  (.seq (.seq (.region [⟨(some 7), none, .mov (.c (.int .i64 0))⟩])
  (.block 0 (.loop (.seq (.seq (.region [⟨(some 8), none, .mov (.t 7)⟩,
    ⟨(some 9), none, .mov (.t 0)⟩,
    ⟨(some 10), none, .len (.t 9)⟩,
    ⟨(some 11), none, .bin .lss (.t 8) (.t 10)⟩])
  (.cond (.t 11) (.skip)
  (.exit 0)))
  (.seq (.block 1 (.seq (.seq (.region [⟨(some 14), none, .mov (.t 0)⟩,
    ⟨(some 15), none, .mov (.t 7)⟩,
    ⟨(some 16), none, .idx (.t 14) (.t 15) 1⟩,
    ⟨(some 17), none, .load (.t 16) none⟩,
    ⟨(some 18), none, .mov (.t 1)⟩,
    ⟨(some 19), none, .bin .sub (.t 18) (.c (.int .i64 1))⟩,
    ⟨(some 20), none, .call 59 [(.t 17), (.c (.int .i64 0)), (.t 19)]⟩,
    ⟨(some 21), none, .not (.t 20)⟩,
    ⟨(some 22), none, .mov (.t 21)⟩,
    ⟨(some 23), some (22, false), .mov (.t 7)⟩,
    ⟨(some 24), some (22, false), .bin .gtr (.t 23) (.c (.int .i64 0))⟩,
    ⟨(some 25), some (22, false), .mov (.t 24)⟩,
    ⟨(some 26), some (25, true), .mov (.t 0)⟩,
    ⟨(some 27), some (25, true), .mov (.t 7)⟩,
    ⟨(some 28), some (25, true), .idx (.t 26) (.t 27) 1⟩,
    ⟨(some 29), some (25, true), .load (.t 28) none⟩,
    ⟨(some 30), some (25, true), .mov (.t 0)⟩,
    ⟨(some 31), some (25, true), .mov (.t 7)⟩,
    ⟨(some 32), some (25, true), .bin .sub (.t 31) (.c (.int .i64 1))⟩,
    ⟨(some 33), some (25, true), .idx (.t 30) (.t 32) 1⟩,
    ⟨(some 34), some (25, true), .load (.t 33) none⟩,
    ⟨(some 35), some (25, true), .bin .leq (.t 29) (.t 34)⟩,
    ⟨(some 36), some (22, false), .pick (.t 25) (.t 35) (.c (.bool false))⟩,
    ⟨(some 37), none, .pick (.t 22) (.c (.bool true)) (.t 36)⟩])
  (.cond (.t 37) (.seq (.region [⟨(some 4), none, .mov (.c (.int .i64 0))⟩,
    ⟨(some 5), none, .mov (.c (.bool false))⟩])
  (.ret))
  (.skip)))
  (.region [⟨(some 38), none, .mov (.t 6)⟩,
    ⟨(some 39), none, .mov (.t 0)⟩,
    ⟨(some 40), none, .mov (.t 7)⟩,
    ⟨(some 41), none, .idx (.t 39) (.t 40) 1⟩,
    ⟨(some 42), none, .load (.t 41) none⟩,
    ⟨(some 43), none, .conv .u64 (.t 42)⟩,
    ⟨(some 44), none, .bin .shl (.c (.int .i64 1)) (.t 43)⟩,
    ⟨(some 45), none, .bin .or (.t 38) (.t 44)⟩,
    ⟨(some 6), none, .mov (.t 45)⟩])))
  (.region [⟨(some 12), none, .mov (.t 7)⟩,
    ⟨(some 13), none, .bin .add (.t 12) (.c (.int .i64 1))⟩,
    ⟨(some 7), none, .mov (.t 13)⟩]))))))
  (.seq (.region [⟨(some 46), none, .mov (.t 6)⟩,
    ⟨(some 4), none, .mov (.t 46)⟩,
    ⟨(some 5), none, .mov (.c (.bool true))⟩])
  (.ret))))
def r35 : List Res := [.t 4, .t 5]
def a35 : AFn := ⟨2, c35, r35, .v⟩

/-- bijou/bijouref01.IsTruth -/
def c36 : ACode := .seq (.region [⟨(some 2), none, .box (.t 0) 2⟩,
    ⟨(some 4), none, .mov (.c (.bool false))⟩])
  (.seq (.region [⟨(some 5), none, .mov (.t 1)⟩,
    ⟨(some 6), none, .addr (.t 2) 0⟩,
    ⟨(some 7), none, .load (.t 6) none⟩,
    ⟨(some 8), none, .conv .u64 (.t 7)⟩,
    ⟨(some 9), none, .bin .shl (.c (.int .i64 1)) (.t 8)⟩,
    ⟨(some 10), none, .bin .sub (.t 9) (.c (.int .i64 1))⟩,
    ⟨(some 11), none, .call 59 [(.t 5), (.c (.int .i64 0)), (.t 10)]⟩,
    ⟨(some 12), none, .mov (.t 11)⟩,
    ⟨(some 13), some (12, true), .load (.t 2) (some 2)⟩,
    ⟨(some 14), some (12, true), .call 55 [(.t 13)]⟩,
    ⟨(some 15), some (12, true), .mov (.t 1)⟩,
    ⟨(some 16), some (12, true), .idx (.t 14) (.t 15) 1⟩,
    ⟨(some 17), some (12, true), .load (.t 16) none⟩,
    ⟨(some 18), some (12, true), .bin .eql (.t 17) (.c (.int .i64 0))⟩,
    ⟨(some 19), none, .pick (.t 12) (.t 18) (.c (.bool false))⟩,
    ⟨(some 4), none, .mov (.t 19)⟩])
  (.ret))
def r36 : List Res := [.t 4]
def a36 : AFn := ⟨2, c36, r36, .v⟩

/-- bijou/reel.Lacks -/
def c37 : ACode := .seq (.region [⟨(some 2), none, .mov (.c (.sl [] .tight))⟩,
    ⟨(some 3), none, .mov (.c (.int .i64 0))⟩])
  (.seq (.seq (.region [⟨(some 13), none, .mov (.t 0)⟩,
    ⟨(some 14), none, .len (.t 13)⟩,
    ⟨(some 15), none, .mov (.c (.int .i64 0))⟩])
  (.block 0 (.loop (.seq (.region [⟨(some 16), none, .bin .lss (.t 15) (.t 14)⟩])
  (.seq (.cond (.t 16) (.skip)
  (.exit 0))
  (.seq (.block 1 (.seq (.region [⟨(some 17), none, .idx (.t 13) (.t 15) 2⟩,
    ⟨(some 18), none, .load (.t 17) (some 2)⟩,
    ⟨(some 5), none, .new (.agg [(.int .i64 0), (.sl [] .tight)]) 2⟩,
    ⟨none, none, .store (.t 5) (.t 18) 2⟩])
  (.seq (.region [⟨(some 19), none, .load (.t 5) (some 2)⟩,
    ⟨(some 20), none, .call 21 [(.t 19)]⟩,
    ⟨(some 6), none, .mov (.t 20)⟩])
  (.seq (.region [⟨(some 21), none, .mov (.t 6)⟩,
    ⟨(some 22), none, .bin .neq (.t 21) (.c (.int .i64 0))⟩])
  (.cond (.t 22) (.seq (.region [⟨(some 23), none, .mov (.t 6)⟩,
    ⟨(some 2), none, .mov (.c (.sl [] .tight))⟩,
    ⟨(some 3), none, .mov (.t 23)⟩])
  (.ret))
  (.skip))))))
  (.region [⟨(some 24), none, .bin .add (.t 15) (.c (.int .i64 1))⟩,
    ⟨(some 15), none, .mov (.t 24)⟩])))))))
  (.seq (.seq (.region [⟨(some 25), none, .mov (.t 0)⟩,
    ⟨(some 26), none, .call 73 [(.t 25)]⟩,
    ⟨(some 27), none, .not (.t 26)⟩])
  (.cond (.t 27) (.seq (.region [⟨(some 2), none, .mov (.c (.sl [] .tight))⟩,
    ⟨(some 3), none, .mov (.c (.int .i64 1))⟩])
  (.ret))
  (.skip)))
  (.seq (.region [⟨(some 7), none, .mov (.c (.int .u16 0))⟩])
  (.seq (.seq (.region [⟨(some 28), none, .mov (.t 0)⟩,
    ⟨(some 29), none, .len (.t 28)⟩,
    ⟨(some 30), none, .mov (.c (.int .i64 0))⟩])
  (.block 2 (.loop (.seq (.region [⟨(some 31), none, .bin .lss (.t 30) (.t 29)⟩])
  (.seq (.cond (.t 31) (.skip)
  (.exit 2))
  (.seq (.block 3 (.seq (.region [⟨(some 32), none, .idx (.t 28) (.t 30) 2⟩,
    ⟨(some 33), none, .load (.t 32) (some 2)⟩,
    ⟨(some 9), none, .new (.agg [(.int .i64 0), (.sl [] .tight)]) 2⟩,
    ⟨none, none, .store (.t 9) (.t 33) 2⟩])
  (.seq (.region [⟨(some 35), none, .load (.t 9) (some 2)⟩,
    ⟨(some 36), none, .call 74 [(.t 35)]⟩,
    ⟨(some 34), none, .mov (.t 36)⟩,
    ⟨(some 37), none, .ext (.t 34) 0⟩,
    ⟨(some 38), none, .ext (.t 34) 1⟩,
    ⟨(some 10), none, .mov (.t 37)⟩,
    ⟨(some 11), none, .mov (.t 38)⟩])
  (.seq (.seq (.region [⟨(some 39), none, .mov (.t 11)⟩,
    ⟨(some 40), none, .not (.t 39)⟩])
  (.cond (.t 40) (.seq (.region [⟨(some 2), none, .mov (.c (.sl [] .tight))⟩,
    ⟨(some 3), none, .mov (.c (.int .i64 3))⟩])
  (.ret))
  (.skip)))
  (.region [⟨(some 41), none, .mov (.t 7)⟩,
    ⟨(some 42), none, .mov (.t 10)⟩,
    ⟨(some 43), none, .bin .or (.t 41) (.t 42)⟩,
    ⟨(some 7), none, .mov (.t 43)⟩])))))
  (.region [⟨(some 44), none, .bin .add (.t 30) (.c (.int .i64 1))⟩,
    ⟨(some 30), none, .mov (.t 44)⟩])))))))
  (.seq (.region [⟨(some 45), none, .mov (.t 0)⟩,
    ⟨(some 46), none, .idx (.t 45) (.c (.int .i64 0)) 2⟩,
    ⟨(some 47), none, .addr (.t 46) 0⟩,
    ⟨(some 48), none, .load (.t 47) none⟩,
    ⟨(some 12), none, .mov (.t 48)⟩])
  (.seq (.region [⟨(some 49), none, .mov (.t 12)⟩,
    ⟨(some 50), none, .call 75 [(.t 49)]⟩,
    ⟨(some 51), none, .mov (.t 7)⟩,
    ⟨(some 52), none, .bin .andNot (.t 50) (.t 51)⟩,
    ⟨(some 53), none, .mov (.t 12)⟩,
    ⟨(some 54), none, .call 72 [(.t 52), (.t 53)]⟩,
    ⟨(some 2), none, .mov (.t 54)⟩,
    ⟨(some 3), none, .mov (.c (.int .i64 0))⟩])
  (.ret)))))))
def r37 : List Res := [.t 2, .t 3]
def a37 : AFn := ⟨1, c37, r37, .v⟩

/-- bijou/bijouref01.Lacks -/
def c38 : ACode := .seq (.region [⟨(some 2), none, .mov (.c (.sl [] .tight))⟩,
    ⟨(some 3), none, .mov (.c (.int .i64 0))⟩])
  (.seq (.seq (.region [⟨(some 4), none, .mov (.c (.int .i64 0))⟩])
  (.block 0 (.loop (.seq (.seq (.region [⟨(some 15), none, .mov (.t 4)⟩,
    ⟨(some 16), none, .mov (.t 0)⟩,
    ⟨(some 17), none, .len (.t 16)⟩,
    ⟨(some 18), none, .bin .lss (.t 15) (.t 17)⟩])
  (.cond (.t 18) (.skip)
  (.exit 0)))
  (.seq (.block 1 (.seq (.region [⟨(some 21), none, .mov (.t 0)⟩,
    ⟨(some 22), none, .mov (.t 4)⟩,
    ⟨(some 23), none, .idx (.t 21) (.t 22) 2⟩,
    ⟨(some 24), none, .load (.t 23) (some 2)⟩,
    ⟨(some 25), none, .call 22 [(.t 24)]⟩,
    ⟨(some 5), none, .mov (.t 25)⟩])
  (.seq (.region [⟨(some 26), none, .mov (.t 5)⟩,
    ⟨(some 27), none, .bin .neq (.t 26) (.c (.int .i64 0))⟩])
  (.cond (.t 27) (.seq (.region [⟨(some 28), none, .mov (.t 5)⟩,
    ⟨(some 2), none, .mov (.c (.sl [] .tight))⟩,
    ⟨(some 3), none, .mov (.t 28)⟩])
  (.ret))
  (.skip)))))
  (.region [⟨(some 19), none, .mov (.t 4)⟩,
    ⟨(some 20), none, .bin .add (.t 19) (.c (.int .i64 1))⟩,
    ⟨(some 4), none, .mov (.t 20)⟩]))))))
  (.seq (.seq (.region [⟨(some 29), none, .mov (.t 0)⟩,
    ⟨(some 30), none, .len (.t 29)⟩,
    ⟨(some 31), none, .call 59 [(.t 30), (.c (.int .i64 1)), (.c (.int .i64 4))]⟩,
    ⟨(some 32), none, .not (.t 31)⟩])
  (.cond (.t 32) (.seq (.region [⟨(some 2), none, .mov (.c (.sl [] .tight))⟩,
    ⟨(some 3), none, .mov (.c (.int .i64 1))⟩])
  (.ret))
  (.skip)))
  (.seq (.seq (.region [⟨(some 6), none, .mov (.c (.int .i64 0))⟩])
  (.block 2 (.loop (.seq (.seq (.region [⟨(some 33), none, .mov (.t 6)⟩,
    ⟨(some 34), none, .mov (.t 0)⟩,
    ⟨(some 35), none, .len (.t 34)⟩,
    ⟨(some 36), none, .bin .lss (.t 33) (.t 35)⟩])
  (.cond (.t 36) (.skip)
  (.exit 2)))
  (.seq (.block 3 (.seq (.region [⟨(some 39), none, .mov (.t 0)⟩,
    ⟨(some 40), none, .mov (.t 6)⟩,
    ⟨(some 41), none, .idx (.t 39) (.t 40) 2⟩,
    ⟨(some 42), none, .addr (.t 41) 0⟩,
    ⟨(some 43), none, .load (.t 42) none⟩,
    ⟨(some 44), none, .mov (.t 0)⟩,
    ⟨(some 45), none, .idx (.t 44) (.c (.int .i64 0)) 2⟩,
    ⟨(some 46), none, .addr (.t 45) 0⟩,
    ⟨(some 47), none, .load (.t 46) none⟩,
    ⟨(some 48), none, .bin .neq (.t 43) (.t 47)⟩])
  (.cond (.t 48) (.seq (.region [⟨(some 2), none, .mov (.c (.sl [] .tight))⟩,
    ⟨(some 3), none, .mov (.c (.int .i64 1))⟩])
  (.ret))
  (.skip))))
  (.region [⟨(some 37), none, .mov (.t 6)⟩,
    ⟨(some 38), none, .bin .add (.t 37) (.c (.int .i64 1))⟩,
    ⟨(some 6), none, .mov (.t 38)⟩]))))))
  (.seq (.region [⟨(some 7), none, .mov (.c (.sl [] .tight))⟩])
  (.seq (.seq (.region [⟨(some 8), none, .mov (.c (.int .i64 0))⟩])
  (.block 4 (.loop (.seq (.seq (.region [⟨(some 49), none, .mov (.t 8)⟩,
    ⟨(some 50), none, .mov (.t 0)⟩,
    ⟨(some 51), none, .len (.t 50)⟩,
    ⟨(some 52), none, .bin .lss (.t 49) (.t 51)⟩])
  (.cond (.t 52) (.skip)
  (.exit 4)))
  (.seq (.block 5 (.seq (.region [⟨(some 56), none, .mov (.t 0)⟩,
    ⟨(some 57), none, .mov (.t 8)⟩,
    ⟨(some 58), none, .idx (.t 56) (.t 57) 2⟩,
    ⟨(some 59), none, .load (.t 58) (some 2)⟩,
    ⟨(some 60), none, .call 65 [(.t 59)]⟩,
    ⟨(some 55), none, .mov (.t 60)⟩,
    ⟨(some 61), none, .ext (.t 55) 0⟩,
    ⟨(some 62), none, .ext (.t 55) 1⟩,
    ⟨(some 9), none, .mov (.t 61)⟩,
    ⟨(some 10), none, .mov (.t 62)⟩])
  (.seq (.seq (.region [⟨(some 63), none, .mov (.t 10)⟩,
    ⟨(some 64), none, .bin .neq (.t 63) (.c (.int .i64 0))⟩])
  (.cond (.t 64) (.seq (.region [⟨(some 65), none, .mov (.t 10)⟩,
    ⟨(some 2), none, .mov (.c (.sl [] .tight))⟩,
    ⟨(some 3), none, .mov (.t 65)⟩])
  (.ret))
  (.skip)))
  (.region [⟨(some 66), none, .mov (.t 7)⟩,
    ⟨(some 67), none, .mov (.t 9)⟩,
    ⟨(some 68), none, .lit false 43 1 [(.t 67)]⟩,
    ⟨(some 69), none, .app false (.t 66) (.t 68) 43 1 24⟩,
    ⟨(some 7), none, .mov (.t 69)⟩]))))
  (.region [⟨(some 53), none, .mov (.t 8)⟩,
    ⟨(some 54), none, .bin .add (.t 53) (.c (.int .i64 1))⟩,
    ⟨(some 8), none, .mov (.t 54)⟩]))))))
  (.seq (.region [⟨(some 11), none, .mov (.c (.sl [] .tight))⟩])
  (.seq (.seq (.region [⟨(some 12), none, .mov (.c (.int .i64 0))⟩])
  (.block 6 (.loop (.seq (.seq (.region [⟨(some 70), none, .mov (.t 12)⟩,
    ⟨(some 71), none, .mov (.t 0)⟩,
    ⟨(some 72), none, .idx (.t 71) (.c (.int .i64 0)) 2⟩,
    ⟨(some 73), none, .addr (.t 72) 0⟩,
    ⟨(some 74), none, .load (.t 73) none⟩,
    ⟨(some 75), none, .bin .lss (.t 70) (.t 74)⟩])
  (.cond (.t 75) (.skip)
  (.exit 6)))
  (.seq (.block 7 (.seq (.region [⟨(some 13), none, .mov (.c (.bool false))⟩])
  (.seq (.seq (.region [⟨(some 14), none, .mov (.c (.int .i64 0))⟩])
  (.block 8 (.loop (.seq (.seq (.region [⟨(some 78), none, .mov (.t 14)⟩,
    ⟨(some 79), none, .mov (.t 7)⟩,
    ⟨(some 80), none, .len (.t 79)⟩,
    ⟨(some 81), none, .bin .lss (.t 78) (.t 80)⟩])
  (.cond (.t 81) (.skip)
  (.exit 8)))
  (.seq (.block 9 (.region [⟨(some 84), none, .mov (.t 13)⟩,
    ⟨(some 85), none, .mov (.t 84)⟩,
    ⟨(some 86), some (85, false), .mov (.t 7)⟩,
    ⟨(some 87), some (85, false), .mov (.t 14)⟩,
    ⟨(some 88), some (85, false), .idx (.t 86) (.t 87) 1⟩,
    ⟨(some 89), some (85, false), .load (.t 88) none⟩,
    ⟨(some 90), some (85, false), .mov (.t 12)⟩,
    ⟨(some 91), some (85, false), .call 68 [(.t 89), (.t 90)]⟩,
    ⟨(some 92), some (85, false), .bin .eql (.t 91) (.c (.int .i64 1))⟩,
    ⟨(some 93), none, .pick (.t 85) (.c (.bool true)) (.t 92)⟩,
    ⟨(some 13), none, .mov (.t 93)⟩]))
  (.region [⟨(some 82), none, .mov (.t 14)⟩,
    ⟨(some 83), none, .bin .add (.t 82) (.c (.int .i64 1))⟩,
    ⟨(some 14), none, .mov (.t 83)⟩]))))))
  (.seq (.region [⟨(some 94), none, .mov (.t 13)⟩,
    ⟨(some 95), none, .not (.t 94)⟩])
  (.cond (.t 95) (.region [⟨(some 96), none, .mov (.t 11)⟩,
    ⟨(some 97), none, .mov (.t 12)⟩,
    ⟨(some 98), none, .lit false 3 1 [(.t 97)]⟩,
    ⟨(some 99), none, .app false (.t 96) (.t 98) 3 1 8⟩,
    ⟨(some 11), none, .mov (.t 99)⟩])
  (.skip))))))
  (.region [⟨(some 76), none, .mov (.t 12)⟩,
    ⟨(some 77), none, .bin .add (.t 76) (.c (.int .i64 1))⟩,
    ⟨(some 12), none, .mov (.t 77)⟩]))))))
  (.seq (.region [⟨(some 100), none, .mov (.t 11)⟩,
    ⟨(some 2), none, .mov (.t 100)⟩,
    ⟨(some 3), none, .mov (.c (.int .i64 0))⟩])
  (.ret)))))))))
def r38 : List Res := [.t 2, .t 3]
def a38 : AFn := ⟨1, c38, r38, .v⟩

/-- bijou/bijoulaw01.sameInts -/
def c39 : ACode := .seq (.region [⟨(some 4), none, .mov (.c (.bool false))⟩])
  (.seq (.seq (.region [⟨(some 6), none, .mov (.t 0)⟩,
    ⟨(some 7), none, .len (.t 6)⟩,
    ⟨(some 8), none, .mov (.t 1)⟩,
    ⟨(some 9), none, .len (.t 8)⟩,
    ⟨(some 10), none, .bin .neq (.t 7) (.t 9)⟩])
  (.cond (.t 10) (.seq (.region [⟨(some 4), none, .mov (.c (.bool false))⟩])
  (.ret))
  (.skip)))
  (.seq (.seq (.region [⟨(some 5), none, .mov (.c (.int .i64 0))⟩])
  (.block 0 (.loop (.seq (.seq (.region [⟨(some 11), none, .mov (.t 5)⟩,
    ⟨(some 12), none, .mov (.t 0)⟩,
    ⟨(some 13), none, .len (.t 12)⟩,
    ⟨(some 14), none, .bin .lss (.t 11) (.t 13)⟩])
  (.cond (.t 14) (.skip)
  (.exit 0)))
  (.seq (.block 1 (.seq (.region [⟨(some 17), none, .mov (.t 0)⟩,
    ⟨(some 18), none, .mov (.t 5)⟩,
    ⟨(some 19), none, .idx (.t 17) (.t 18) 1⟩,
    ⟨(some 20), none, .load (.t 19) none⟩,
    ⟨(some 21), none, .mov (.t 1)⟩,
    ⟨(some 22), none, .mov (.t 5)⟩,
    ⟨(some 23), none, .idx (.t 21) (.t 22) 1⟩,
    ⟨(some 24), none, .load (.t 23) none⟩,
    ⟨(some 25), none, .bin .neq (.t 20) (.t 24)⟩])
  (.cond (.t 25) (.seq (.region [⟨(some 4), none, .mov (.c (.bool false))⟩])
  (.ret))
  (.skip))))
  (.region [⟨(some 15), none, .mov (.t 5)⟩,
    ⟨(some 16), none, .bin .add (.t 15) (.c (.int .i64 1))⟩,
    ⟨(some 5), none, .mov (.t 16)⟩]))))))
  (.seq (.region [⟨(some 4), none, .mov (.c (.bool true))⟩])
  (.ret))))
def r39 : List Res := [.t 4]
def a39 : AFn := ⟨2, c39, r39, .v⟩

/-- bijou/bijoulaw01.ready -/
def c40 : ACode := .seq (.region [⟨(some 1), none, .box (.t 0) 2⟩,
    ⟨(some 2), none, .mov (.c (.bool false))⟩])
  (.seq (.region [⟨(some 3), none, .load (.t 1) (some 2)⟩,
    ⟨(some 4), none, .call 14 [(.t 3)]⟩,
    ⟨(some 5), none, .not (.t 4)⟩,
    ⟨(some 6), none, .mov (.t 5)⟩,
    ⟨(some 7), some (6, true), .load (.t 1) (some 2)⟩,
    ⟨(some 8), some (6, true), .call 22 [(.t 7)]⟩,
    ⟨(some 9), some (6, true), .bin .eql (.t 8) (.c (.int .i64 0))⟩,
    ⟨(some 10), none, .pick (.t 6) (.t 9) (.c (.bool false))⟩,
    ⟨(some 2), none, .mov (.t 10)⟩])
  (.ret))
def r40 : List Res := [.t 2]
def a40 : AFn := ⟨1, c40, r40, .v⟩

/-- bijou/bijoulaw01.truth -/
def c41 : ACode := .seq (.region [⟨(some 2), none, .box (.t 0) 2⟩,
    ⟨(some 4), none, .mov (.c (.int .i64 0))⟩,
    ⟨(some 5), none, .mov (.c (.bool false))⟩])
  (.seq (.region [⟨(some 13), none, .addr (.t 2) 0⟩,
    ⟨(some 14), none, .load (.t 13) none⟩,
    ⟨(some 15), none, .conv .u64 (.t 14)⟩,
    ⟨(some 16), none, .bin .shl (.c (.int .i64 1)) (.t 15)⟩,
    ⟨(some 17), none, .bin .sub (.t 16) (.c (.int .i64 1))⟩,
    ⟨(some 6), none, .mov (.t 17)⟩])
  (.seq (.region [⟨(some 7), none, .mov (.c (.int .i64 0))⟩])
  (.seq (.seq (.region [⟨(some 8), none, .mov (.c (.int .i64 0))⟩])
  (.block 0 (.loop (.seq (.seq (.region [⟨(some 18), none, .mov (.t 8)⟩,
    ⟨(some 19), none, .addr (.t 2) 1⟩,
    ⟨(some 20), none, .load (.t 19) none⟩,
    ⟨(some 21), none, .len (.t 20)⟩,
    ⟨(some 22), none, .bin .lss (.t 18) (.t 21)⟩])
  (.cond (.t 22) (.skip)
  (.exit 0)))
  (.seq (.block 1 (.seq (.region [⟨(some 25), none, .addr (.t 2) 1⟩,
    ⟨(some 26), none, .load (.t 25) none⟩,
    ⟨(some 27), none, .mov (.t 8)⟩,
    ⟨(some 28), none, .idx (.t 26) (.t 27) 5⟩,
    ⟨(some 29), none, .load (.t 28) (some 5)⟩,
    ⟨(some 9), none, .new (.agg [(.int .i64 0), (.int .i64 0), (.int .i64 0), (.int .i64 0), (.int .i64 0)]) 5⟩,
    ⟨none, none, .store (.t 9) (.t 29) 5⟩])
  (.seq (.seq (.region [⟨(some 30), none, .addr (.t 9) 0⟩,
    ⟨(some 31), none, .load (.t 30) none⟩,
    ⟨(some 32), none, .bin .neq (.t 31) (.c (.int .i64 1))⟩])
  (.cond (.t 32) (.exit 1)
  (.skip)))
  (.seq (.seq (.region [⟨(some 33), none, .mov (.t 7)⟩,
    ⟨(some 34), none, .mov (.t 1)⟩,
    ⟨(some 35), none, .len (.t 34)⟩,
    ⟨(some 36), none, .bin .geq (.t 33) (.t 35)⟩])
  (.cond (.t 36) (.seq (.region [⟨(some 4), none, .mov (.c (.int .i64 0))⟩,
    ⟨(some 5), none, .mov (.c (.bool false))⟩])
  (.ret))
  (.skip)))
  (.seq (.region [⟨(some 37), none, .mov (.t 1)⟩,
    ⟨(some 38), none, .mov (.t 7)⟩,
    ⟨(some 39), none, .idx (.t 37) (.t 38) 2⟩,
    ⟨(some 40), none, .load (.t 39) (some 2)⟩,
    ⟨(some 10), none, .new (.agg [(.int .i64 0), (.int .i64 0)]) 2⟩,
    ⟨none, none, .store (.t 10) (.t 40) 2⟩])
  (.seq (.region [⟨(some 41), none, .mov (.t 7)⟩,
    ⟨(some 42), none, .bin .add (.t 41) (.c (.int .i64 1))⟩,
    ⟨(some 7), none, .mov (.t 42)⟩])
  (.seq (.seq (.region [⟨(some 43), none, .addr (.t 10) 1⟩,
    ⟨(some 44), none, .load (.t 43) none⟩,
    ⟨(some 45), none, .addr (.t 10) 0⟩,
    ⟨(some 46), none, .load (.t 45) none⟩,
    ⟨(some 47), none, .bin .lss (.t 44) (.t 46)⟩])
  (.cond (.t 47) (.seq (.seq (.region [⟨(some 48), none, .addr (.t 9) 3⟩,
    ⟨(some 49), none, .addr (.t 48) 0⟩,
    ⟨(some 50), none, .load (.t 49) none⟩,
    ⟨(some 51), none, .bin .gtr (.t 50) (.c (.int .i64 0))⟩])
  (.cond (.t 51) (.seq (.region [⟨(some 4), none, .mov (.c (.int .i64 0))⟩,
    ⟨(some 5), none, .mov (.c (.bool false))⟩])
  (.ret))
  (.skip)))
  (.exit 1))
  (.skip)))
  (.seq (.seq (.region [⟨(some 52), none, .addr (.t 10) 0⟩,
    ⟨(some 53), none, .load (.t 52) none⟩,
    ⟨(some 54), none, .addr (.t 9) 1⟩,
    ⟨(some 55), none, .load (.t 54) none⟩,
    ⟨(some 56), none, .bin .lss (.t 53) (.t 55)⟩,
    ⟨(some 57), none, .mov (.t 56)⟩,
    ⟨(some 58), some (57, false), .addr (.t 10) 1⟩,
    ⟨(some 59), some (57, false), .load (.t 58) none⟩,
    ⟨(some 60), some (57, false), .addr (.t 9) 2⟩,
    ⟨(some 61), some (57, false), .load (.t 60) none⟩,
    ⟨(some 62), some (57, false), .bin .gtr (.t 59) (.t 61)⟩,
    ⟨(some 63), none, .pick (.t 57) (.c (.bool true)) (.t 62)⟩,
    ⟨(some 64), none, .mov (.t 63)⟩,
    ⟨(some 65), some (64, false), .addr (.t 10) 1⟩,
    ⟨(some 66), some (64, false), .load (.t 65) none⟩,
    ⟨(some 67), some (64, false), .addr (.t 10) 0⟩,
    ⟨(some 68), some (64, false), .load (.t 67) none⟩,
    ⟨(some 69), some (64, false), .bin .sub (.t 66) (.t 68)⟩,
    ⟨(some 70), some (64, false), .bin .add (.t 69) (.c (.int .i64 1))⟩,
    ⟨(some 71), some (64, false), .addr (.t 9) 3⟩,
    ⟨(some 72), some (64, false), .load (.t 71) (some 2)⟩,
    ⟨(some 73), some (64, false), .call 43 [(.t 70), (.t 72)]⟩,
    ⟨(some 74), some (64, false), .not (.t 73)⟩,
    ⟨(some 75), none, .pick (.t 64) (.c (.bool true)) (.t 74)⟩])
  (.cond (.t 75) (.seq (.region [⟨(some 4), none, .mov (.c (.int .i64 0))⟩,
    ⟨(some 5), none, .mov (.c (.bool false))⟩])
  (.ret))
  (.skip)))
  (.seq (.region [⟨(some 76), none, .addr (.t 10) 0⟩,
    ⟨(some 77), none, .load (.t 76) none⟩,
    ⟨(some 11), none, .mov (.t 77)⟩])
  (.block 2 (.loop (.seq (.seq (.region [⟨(some 78), none, .mov (.t 11)⟩,
    ⟨(some 79), none, .addr (.t 10) 1⟩,
    ⟨(some 80), none, .load (.t 79) none⟩,
    ⟨(some 81), none, .bin .leq (.t 78) (.t 80)⟩])
  (.cond (.t 81) (.skip)
  (.exit 2)))
  (.seq (.block 3 (.region [⟨(some 84), none, .mov (.t 6)⟩,
    ⟨(some 85), none, .mov (.t 11)⟩,
    ⟨(some 86), none, .conv .u64 (.t 85)⟩,
    ⟨(some 87), none, .bin .shl (.c (.int .i64 1)) (.t 86)⟩,
    ⟨(some 88), none, .bin .andNot (.t 84) (.t 87)⟩,
    ⟨(some 6), none, .mov (.t 88)⟩]))
  (.region [⟨(some 82), none, .mov (.t 11)⟩,
    ⟨(some 83), none, .bin .add (.t 82) (.c (.int .i64 1))⟩,
    ⟨(some 11), none, .mov (.t 83)⟩]))))))))))))))
  (.region [⟨(some 23), none, .mov (.t 8)⟩,
    ⟨(some 24), none, .bin .add (.t 23) (.c (.int .i64 1))⟩,
    ⟨(some 8), none, .mov (.t 24)⟩]))))))
  (.seq (.seq (.region [⟨(some 12), none, .mov (.c (.int .i64 0))⟩])
  (.block 4 (.loop (.seq (.seq (.region [⟨(some 89), none, .mov (.t 12)⟩,
    ⟨(some 90), none, .addr (.t 2) 1⟩,
    ⟨(some 91), none, .load (.t 90) none⟩,
    ⟨(some 92), none, .len (.t 91)⟩,
    ⟨(some 93), none, .bin .lss (.t 89) (.t 92)⟩])
  (.cond (.t 93) (.skip)
  (.exit 4)))
  (.seq (.block 5 (.seq (.region [⟨(some 96), none, .addr (.t 2) 1⟩,
    ⟨(some 97), none, .load (.t 96) none⟩,
    ⟨(some 98), none, .mov (.t 12)⟩,
    ⟨(some 99), none, .idx (.t 97) (.t 98) 5⟩,
    ⟨(some 100), none, .addr (.t 99) 0⟩,
    ⟨(some 101), none, .load (.t 100) none⟩,
    ⟨(some 102), none, .bin .neq (.t 101) (.c (.int .i64 1))⟩,
    ⟨(some 103), none, .mov (.t 102)⟩,
    ⟨(some 104), some (103, true), .mov (.t 6)⟩,
    ⟨(some 105), some (103, true), .addr (.t 2) 0⟩,
    ⟨(some 106), some (103, true), .load (.t 105) none⟩,
    ⟨(some 107), some (103, true), .addr (.t 2) 1⟩,
    ⟨(some 108), some (103, true), .load (.t 107) none⟩,
    ⟨(some 109), some (103, true), .mov (.t 12)⟩,
    ⟨(some 110), some (103, true), .idx (.t 108) (.t 109) 5⟩,
    ⟨(some 111), some (103, true), .load (.t 110) (some 5)⟩,
    ⟨(some 112), some (103, true), .call 76 [(.t 104), (.t 106), (.t 111)]⟩,
    ⟨(some 113), some (103, true), .not (.t 112)⟩,
    ⟨(some 114), none, .pick (.t 103) (.t 113) (.c (.bool false))⟩])
  (.cond (.t 114) (.seq (.region [⟨(some 4), none, .mov (.c (.int .i64 0))⟩,
    ⟨(some 5), none, .mov (.c (.bool false))⟩])
  (.ret))
  (.skip))))
  (.region [⟨(some 94), none, .mov (.t 12)⟩,
    ⟨(some 95), none, .bin .add (.t 94) (.c (.int .i64 1))⟩,
    ⟨(some 12), none, .mov (.t 95)⟩]))))))
  (.seq (.region [⟨(some 115), none, .mov (.t 6)⟩,
    ⟨(some 116), none, .mov (.t 7)⟩,
    ⟨(some 117), none, .mov (.t 1)⟩,
    ⟨(some 118), none, .len (.t 117)⟩,
    ⟨(some 119), none, .bin .eql (.t 116) (.t 118)⟩,
    ⟨(some 4), none, .mov (.t 115)⟩,
    ⟨(some 5), none, .mov (.t 119)⟩])
  (.ret))))))
def r41 : List Res := [.t 4, .t 5]
def a41 : AFn := ⟨2, c41, r41, .v⟩

/-- bijou/bijouref01.Feet -/
def c42 : ACode := .seq (.region [⟨(some 6), none, .mov (.c (.int .i64 0))⟩])
  (.seq (.region [⟨(some 7), none, .mov (.c (.int .i64 0))⟩])
  (.seq (.seq (.region [⟨(some 9), none, .mov (.t 1)⟩,
    ⟨(some 8), none, .mov (.t 9)⟩])
  (.block 0 (.loop (.seq (.seq (.region [⟨(some 10), none, .mov (.t 8)⟩,
    ⟨(some 11), none, .mov (.t 2)⟩,
    ⟨(some 12), none, .bin .leq (.t 10) (.t 11)⟩])
  (.cond (.t 12) (.skip)
  (.exit 0)))
  (.seq (.block 1 (.seq (.region [⟨(some 15), none, .mov (.t 0)⟩,
    ⟨(some 16), none, .mov (.t 8)⟩,
    ⟨(some 17), none, .call 77 [(.t 15), (.t 16)]⟩])
  (.cond (.t 17) (.region [⟨(some 18), none, .mov (.t 7)⟩,
    ⟨(some 19), none, .bin .add (.t 18) (.c (.int .i64 1))⟩,
    ⟨(some 7), none, .mov (.t 19)⟩])
  (.skip))))
  (.region [⟨(some 13), none, .mov (.t 8)⟩,
    ⟨(some 14), none, .bin .add (.t 13) (.c (.int .i64 1))⟩,
    ⟨(some 8), none, .mov (.t 14)⟩]))))))
  (.seq (.region [⟨(some 20), none, .mov (.t 7)⟩,
    ⟨(some 6), none, .mov (.t 20)⟩])
  (.ret))))
def r42 : List Res := [.t 6]
def a42 : AFn := ⟨3, c42, r42, .v⟩

/-- bijou/bijoulaw01.in -/
def c43 : ACode := .seq (.region [⟨(some 3), none, .box (.t 1) 2⟩,
    ⟨(some 4), none, .mov (.c (.bool false))⟩])
  (.seq (.region [⟨(some 5), none, .addr (.t 3) 0⟩,
    ⟨(some 6), none, .load (.t 5) none⟩,
    ⟨(some 7), none, .mov (.t 0)⟩,
    ⟨(some 8), none, .bin .leq (.t 6) (.t 7)⟩,
    ⟨(some 9), none, .mov (.t 8)⟩,
    ⟨(some 10), some (9, true), .mov (.t 0)⟩,
    ⟨(some 11), some (9, true), .addr (.t 3) 1⟩,
    ⟨(some 12), some (9, true), .load (.t 11) none⟩,
    ⟨(some 13), some (9, true), .bin .leq (.t 10) (.t 12)⟩,
    ⟨(some 14), none, .pick (.t 9) (.t 13) (.c (.bool false))⟩,
    ⟨(some 4), none, .mov (.t 14)⟩])
  (.ret))
def r43 : List Res := [.t 4]
def a43 : AFn := ⟨2, c43, r43, .v⟩

/-- bijou/bijouref01.Gaps -/
def c44 : ACode := .seq (.region [⟨(some 4), none, .mov (.c (.int .i64 0))⟩])
  (.seq (.region [⟨(some 5), none, .mov (.c (.int .i64 0))⟩,
    ⟨(some 6), none, .mov (.c (.int .i64 (-1)))⟩])
  (.seq (.seq (.region [⟨(some 7), none, .mov (.c (.int .i64 0))⟩])
  (.block 0 (.loop (.seq (.seq (.region [⟨(some 8), none, .mov (.t 7)⟩,
    ⟨(some 9), none, .mov (.t 1)⟩,
    ⟨(some 10), none, .bin .lss (.t 8) (.t 9)⟩])
  (.cond (.t 10) (.skip)
  (.exit 0)))
  (.seq (.block 1 (.seq (.region [⟨(some 13), none, .mov (.t 0)⟩,
    ⟨(some 14), none, .mov (.t 7)⟩,
    ⟨(some 15), none, .call 77 [(.t 13), (.t 14)]⟩])
  (.cond (.t 15) (.seq (.seq (.region [⟨(some 16), none, .mov (.t 6)⟩,
    ⟨(some 17), none, .bin .geq (.t 16) (.c (.int .i64 0))⟩,
    ⟨(some 18), none, .mov (.t 17)⟩,
    ⟨(some 19), some (18, true), .mov (.t 6)⟩,
    ⟨(some 20), some (18, true), .mov (.t 7)⟩,
    ⟨(some 21), some (18, true), .bin .sub (.t 20) (.c (.int .i64 1))⟩,
    ⟨(some 22), some (18, true), .bin .lss (.t 19) (.t 21)⟩,
    ⟨(some 23), none, .pick (.t 18) (.t 22) (.c (.bool false))⟩])
  (.cond (.t 23) (.region [⟨(some 24), none, .mov (.t 5)⟩,
    ⟨(some 25), none, .bin .add (.t 24) (.c (.int .i64 1))⟩,
    ⟨(some 5), none, .mov (.t 25)⟩])
  (.skip)))
  (.region [⟨(some 26), none, .mov (.t 7)⟩,
    ⟨(some 6), none, .mov (.t 26)⟩]))
  (.skip))))
  (.region [⟨(some 11), none, .mov (.t 7)⟩,
    ⟨(some 12), none, .bin .add (.t 11) (.c (.int .i64 1))⟩,
    ⟨(some 7), none, .mov (.t 12)⟩]))))))
  (.seq (.region [⟨(some 27), none, .mov (.t 5)⟩,
    ⟨(some 4), none, .mov (.t 27)⟩])
  (.ret))))
def r44 : List Res := [.t 4]
def a44 : AFn := ⟨2, c44, r44, .v⟩

/-- bijou/bijouref01.Row -/
def c45 : ACode := .seq (.region [⟨(some 4), none, .mov (.c (.int .i64 0))⟩])
  (.seq (.region [⟨(some 5), none, .mov (.c (.int .i64 0))⟩,
    ⟨(some 6), none, .mov (.c (.int .i64 0))⟩])
  (.seq (.seq (.region [⟨(some 7), none, .mov (.c (.int .i64 0))⟩])
  (.block 0 (.loop (.seq (.seq (.region [⟨(some 8), none, .mov (.t 7)⟩,
    ⟨(some 9), none, .mov (.t 1)⟩,
    ⟨(some 10), none, .bin .lss (.t 8) (.t 9)⟩])
  (.cond (.t 10) (.skip)
  (.exit 0)))
  (.seq (.block 1 (.seq (.region [⟨(some 13), none, .mov (.t 6)⟩,
    ⟨(some 14), none, .bin .add (.t 13) (.c (.int .i64 1))⟩,
    ⟨(some 6), none, .mov (.t 14)⟩])
  (.seq (.seq (.region [⟨(some 15), none, .mov (.t 0)⟩,
    ⟨(some 16), none, .mov (.t 7)⟩,
    ⟨(some 17), none, .call 77 [(.t 15), (.t 16)]⟩,
    ⟨(some 18), none, .not (.t 17)⟩])
  (.cond (.t 18) (.region [⟨(some 6), none, .mov (.c (.int .i64 0))⟩])
  (.skip)))
  (.region [⟨(some 19), none, .mov (.t 5)⟩,
    ⟨(some 20), none, .mov (.t 6)⟩,
    ⟨(some 21), none, .mnx true (.t 19) (.t 20)⟩,
    ⟨(some 5), none, .mov (.t 21)⟩]))))
  (.region [⟨(some 11), none, .mov (.t 7)⟩,
    ⟨(some 12), none, .bin .add (.t 11) (.c (.int .i64 1))⟩,
    ⟨(some 7), none, .mov (.t 12)⟩]))))))
  (.seq (.region [⟨(some 22), none, .mov (.t 5)⟩,
    ⟨(some 4), none, .mov (.t 22)⟩])
  (.ret))))
def r45 : List Res := [.t 4]
def a45 : AFn := ⟨2, c45, r45, .v⟩

/-- bijou/bijoulaw01.with -/
def c46 : ACode := .seq (.region [⟨(some 2), none, .box (.t 0) 2⟩,
    ⟨(some 3), none, .box (.t 1) 5⟩,
    ⟨(some 4), none, .new (.agg [(.int .i64 0), (.sl [] .tight)]) 2⟩])
  (.seq (.region [⟨(some 6), none, .load (.t 2) (some 2)⟩,
    ⟨(some 7), none, .call 16 [(.t 6)]⟩,
    ⟨(some 5), none, .new (.agg [(.int .i64 0), (.sl [] .tight)]) 2⟩,
    ⟨none, none, .store (.t 5) (.t 7) 2⟩])
  (.seq (.region [⟨(some 8), none, .addr (.t 5) 1⟩,
    ⟨(some 9), none, .load (.t 8) none⟩,
    ⟨(some 10), none, .load (.t 3) (some 5)⟩,
    ⟨(some 11), none, .lit false 37 5 [(.t 10)]⟩,
    ⟨(some 12), none, .app false (.t 9) (.t 11) 37 5 40⟩,
    ⟨(some 13), none, .addr (.t 5) 1⟩,
    ⟨none, none, .store (.t 13) (.t 12) 1⟩])
  (.seq (.region [⟨(some 14), none, .load (.t 5) (some 2)⟩,
    ⟨none, none, .store (.t 4) (.t 14) 2⟩])
  (.ret))))
def r46 : List Res := [.cell 4 (some 2)]
def a46 : AFn := ⟨2, c46, r46, .v⟩

/-- bijou/bijoulaw01.spans -/
def c47 : ACode := .seq (.region [⟨(some 1), none, .box (.t 0) 2⟩,
    ⟨(some 2), none, .mov (.c (.sl [] .tight))⟩,
    ⟨(some 3), none, .mov (.c (.bool false))⟩])
  (.seq (.region [⟨(some 11), none, .load (.t 1) (some 2)⟩,
    ⟨(some 12), none, .call 23 [(.t 11)]⟩,
    ⟨(some 10), none, .mov (.t 12)⟩,
    ⟨(some 13), none, .ext (.t 10) 0⟩,
    ⟨(some 14), none, .ext (.t 10) 1⟩,
    ⟨(some 4), none, .new (.agg [(.int .i64 0), (.int .i64 0)]) 2⟩,
    ⟨none, none, .store (.t 4) (.t 13) 2⟩,
    ⟨(some 5), none, .mov (.t 14)⟩])
  (.seq (.region [⟨(some 16), none, .load (.t 1) (some 2)⟩,
    ⟨(some 17), none, .call 25 [(.t 16)]⟩,
    ⟨(some 15), none, .mov (.t 17)⟩,
    ⟨(some 18), none, .ext (.t 15) 0⟩,
    ⟨(some 19), none, .ext (.t 15) 1⟩,
    ⟨(some 6), none, .new (.agg [(.int .i64 0), (.int .i64 0)]) 2⟩,
    ⟨none, none, .store (.t 6) (.t 18) 2⟩,
    ⟨(some 7), none, .mov (.t 19)⟩])
  (.seq (.region [⟨(some 21), none, .load (.t 1) (some 2)⟩,
    ⟨(some 22), none, .call 27 [(.t 21)]⟩,
    ⟨(some 20), none, .mov (.t 22)⟩,
    ⟨(some 23), none, .ext (.t 20) 0⟩,
    ⟨(some 24), none, .ext (.t 20) 1⟩,
    ⟨(some 8), none, .new (.agg [(.int .i64 0), (.int .i64 0)]) 2⟩,
    ⟨none, none, .store (.t 8) (.t 23) 2⟩,
    ⟨(some 9), none, .mov (.t 24)⟩])
  (.seq (.region [⟨(some 25), none, .load (.t 4) (some 2)⟩,
    ⟨(some 26), none, .load (.t 6) (some 2)⟩,
    ⟨(some 27), none, .load (.t 8) (some 2)⟩,
    ⟨(some 28), none, .lit false 33 2 [(.t 25), (.t 26), (.t 27)]⟩,
    ⟨(some 29), none, .mov (.t 5)⟩,
    ⟨(some 30), none, .bin .eql (.t 29) (.c (.int .i64 0))⟩,
    ⟨(some 31), none, .mov (.t 30)⟩,
    ⟨(some 32), some (31, true), .mov (.t 7)⟩,
    ⟨(some 33), some (31, true), .bin .eql (.t 32) (.c (.int .i64 0))⟩,
    ⟨(some 34), none, .pick (.t 31) (.t 33) (.c (.bool false))⟩,
    ⟨(some 35), none, .mov (.t 34)⟩,
    ⟨(some 36), some (35, true), .mov (.t 9)⟩,
    ⟨(some 37), some (35, true), .bin .eql (.t 36) (.c (.int .i64 0))⟩,
    ⟨(some 38), none, .pick (.t 35) (.t 37) (.c (.bool false))⟩,
    ⟨(some 2), none, .mov (.t 28)⟩,
    ⟨(some 3), none, .mov (.t 38)⟩])
  (.ret)))))
def r47 : List Res := [.t 2, .t 3]
def a47 : AFn := ⟨1, c47, r47, .v⟩

/-- bijou/bijoulaw01.inside -/
def c48 : ACode := .seq (.region [⟨(some 2), none, .box (.t 0) 2⟩,
    ⟨(some 3), none, .box (.t 1) 2⟩,
    ⟨(some 4), none, .mov (.c (.bool false))⟩])
  (.seq (.region [⟨(some 5), none, .addr (.t 3) 0⟩,
    ⟨(some 6), none, .load (.t 5) none⟩,
    ⟨(some 7), none, .addr (.t 2) 0⟩,
    ⟨(some 8), none, .load (.t 7) none⟩,
    ⟨(some 9), none, .bin .leq (.t 6) (.t 8)⟩,
    ⟨(some 10), none, .mov (.t 9)⟩,
    ⟨(some 11), some (10, true), .addr (.t 2) 0⟩,
    ⟨(some 12), some (10, true), .load (.t 11) none⟩,
    ⟨(some 13), some (10, true), .addr (.t 2) 1⟩,
    ⟨(some 14), some (10, true), .load (.t 13) none⟩,
    ⟨(some 15), some (10, true), .bin .leq (.t 12) (.t 14)⟩,
    ⟨(some 16), none, .pick (.t 10) (.t 15) (.c (.bool false))⟩,
    ⟨(some 17), none, .mov (.t 16)⟩,
    ⟨(some 18), some (17, true), .addr (.t 2) 1⟩,
    ⟨(some 19), some (17, true), .load (.t 18) none⟩,
    ⟨(some 20), some (17, true), .addr (.t 3) 1⟩,
    ⟨(some 21), some (17, true), .load (.t 20) none⟩,
    ⟨(some 22), some (17, true), .bin .leq (.t 19) (.t 21)⟩,
    ⟨(some 23), none, .pick (.t 17) (.t 22) (.c (.bool false))⟩,
    ⟨(some 4), none, .mov (.t 23)⟩])
  (.ret))
def r48 : List Res := [.t 4]
def a48 : AFn := ⟨2, c48, r48, .v⟩

/-- bijou/bijoulaw01.alike -/
def c49 : ACode := .seq (.region [⟨(some 4), none, .box (.t 0) 2⟩,
    ⟨(some 5), none, .box (.t 1) 2⟩,
    ⟨(some 8), none, .mov (.c (.bool false))⟩])
  (.seq (.region [⟨(some 23), none, .load (.t 4) (some 2)⟩,
    ⟨(some 24), none, .call 17 [(.t 23)]⟩,
    ⟨(some 22), none, .mov (.t 24)⟩,
    ⟨(some 25), none, .ext (.t 22) 0⟩,
    ⟨(some 26), none, .ext (.t 22) 1⟩,
    ⟨(some 9), none, .mov (.t 25)⟩,
    ⟨(some 10), none, .mov (.t 26)⟩])
  (.seq (.region [⟨(some 28), none, .load (.t 5) (some 2)⟩,
    ⟨(some 29), none, .call 17 [(.t 28)]⟩,
    ⟨(some 27), none, .mov (.t 29)⟩,
    ⟨(some 30), none, .ext (.t 27) 0⟩,
    ⟨(some 31), none, .ext (.t 27) 1⟩,
    ⟨(some 11), none, .mov (.t 30)⟩,
    ⟨(some 12), none, .mov (.t 31)⟩])
  (.seq (.seq (.region [⟨(some 32), none, .mov (.t 10)⟩,
    ⟨(some 33), none, .bin .neq (.t 32) (.c (.int .i64 0))⟩,
    ⟨(some 34), none, .mov (.t 33)⟩,
    ⟨(some 35), some (34, false), .mov (.t 12)⟩,
    ⟨(some 36), some (34, false), .bin .neq (.t 35) (.c (.int .i64 0))⟩,
    ⟨(some 37), none, .pick (.t 34) (.c (.bool true)) (.t 36)⟩,
    ⟨(some 38), none, .mov (.t 37)⟩,
    ⟨(some 39), some (38, false), .mov (.t 9)⟩,
    ⟨(some 40), some (38, false), .mov (.t 11)⟩,
    ⟨(some 41), some (38, false), .bin .neq (.t 39) (.t 40)⟩,
    ⟨(some 42), none, .pick (.t 38) (.c (.bool true)) (.t 41)⟩])
  (.cond (.t 42) (.seq (.region [⟨(some 8), none, .mov (.c (.bool false))⟩])
  (.ret))
  (.skip)))
  (.seq (.region [⟨(some 44), none, .load (.t 4) (some 2)⟩,
    ⟨(some 45), none, .call 47 [(.t 44)]⟩,
    ⟨(some 43), none, .mov (.t 45)⟩,
    ⟨(some 46), none, .ext (.t 43) 0⟩,
    ⟨(some 47), none, .ext (.t 43) 1⟩,
    ⟨(some 13), none, .mov (.t 46)⟩,
    ⟨(some 14), none, .mov (.t 47)⟩])
  (.seq (.region [⟨(some 49), none, .load (.t 5) (some 2)⟩,
    ⟨(some 50), none, .call 47 [(.t 49)]⟩,
    ⟨(some 48), none, .mov (.t 50)⟩,
    ⟨(some 51), none, .ext (.t 48) 0⟩,
    ⟨(some 52), none, .ext (.t 48) 1⟩,
    ⟨(some 15), none, .mov (.t 51)⟩,
    ⟨(some 16), none, .mov (.t 52)⟩])
  (.seq (.region [⟨(some 54), none, .load (.t 4) (some 2)⟩,
    ⟨(some 55), none, .mov (.t 2)⟩,
    ⟨(some 56), none, .call 29 [(.t 54), (.t 55)]⟩,
    ⟨(some 53), none, .mov (.t 56)⟩,
    ⟨(some 57), none, .ext (.t 53) 0⟩,
    ⟨(some 58), none, .ext (.t 53) 1⟩,
    ⟨(some 17), none, .mov (.t 57)⟩,
    ⟨(some 18), none, .mov (.t 58)⟩])
  (.seq (.region [⟨(some 60), none, .load (.t 5) (some 2)⟩,
    ⟨(some 61), none, .mov (.t 3)⟩,
    ⟨(some 62), none, .call 29 [(.t 60), (.t 61)]⟩,
    ⟨(some 59), none, .mov (.t 62)⟩,
    ⟨(some 63), none, .ext (.t 59) 0⟩,
    ⟨(some 64), none, .ext (.t 59) 1⟩,
    ⟨(some 19), none, .mov (.t 63)⟩,
    ⟨(some 20), none, .mov (.t 64)⟩])
  (.seq (.seq (.region [⟨(some 65), none, .mov (.t 14)⟩,
    ⟨(some 66), none, .mov (.t 16)⟩,
    ⟨(some 67), none, .eqv true false [.b] (.t 65) (.t 66)⟩,
    ⟨(some 68), none, .mov (.t 67)⟩,
    ⟨(some 69), some (68, false), .mov (.t 17)⟩,
    ⟨(some 70), some (68, false), .mov (.t 19)⟩,
    ⟨(some 71), some (68, false), .bin .neq (.t 69) (.t 70)⟩,
    ⟨(some 72), none, .pick (.t 68) (.c (.bool true)) (.t 71)⟩,
    ⟨(some 73), none, .mov (.t 72)⟩,
    ⟨(some 74), some (73, false), .mov (.t 18)⟩,
    ⟨(some 75), some (73, false), .mov (.t 20)⟩,
    ⟨(some 76), some (73, false), .bin .neq (.t 74) (.t 75)⟩,
    ⟨(some 77), none, .pick (.t 73) (.c (.bool true)) (.t 76)⟩,
    ⟨(some 78), none, .mov (.t 77)⟩,
    ⟨(some 79), some (78, false), .mov (.t 14)⟩,
    ⟨(some 80), some (78, false), .mov (.t 9)⟩,
    ⟨(some 81), some (78, false), .bin .gtr (.t 80) (.c (.int .i64 0))⟩,
    ⟨(some 82), some (78, false), .eqv true false [.b] (.t 79) (.t 81)⟩,
    ⟨(some 83), none, .pick (.t 78) (.c (.bool true)) (.t 82)⟩])
  (.cond (.t 83) (.seq (.region [⟨(some 8), none, .mov (.c (.bool false))⟩])
  (.ret))
  (.skip)))
  (.seq (.seq (.region [⟨(some 21), none, .mov (.c (.int .i64 0))⟩])
  (.block 0 (.loop (.seq (.seq (.region [⟨(some 84), none, .mov (.t 21)⟩,
    ⟨(some 85), none, .mov (.t 13)⟩,
    ⟨(some 86), none, .len (.t 85)⟩,
    ⟨(some 87), none, .bin .lss (.t 84) (.t 86)⟩,
    ⟨(some 88), none, .mov (.t 87)⟩,
    ⟨(some 89), some (88, true), .mov (.t 14)⟩,
    ⟨(some 90), none, .pick (.t 88) (.t 89) (.c (.bool false))⟩])
  (.cond (.t 90) (.skip)
  (.exit 0)))
  (.seq (.block 1 (.seq (.region [⟨(some 93), none, .mov (.t 13)⟩,
    ⟨(some 94), none, .mov (.t 21)⟩,
    ⟨(some 95), none, .idx (.t 93) (.t 94) 2⟩,
    ⟨(some 96), none, .load (.t 95) (some 2)⟩,
    ⟨(some 97), none, .mov (.t 15)⟩,
    ⟨(some 98), none, .mov (.t 21)⟩,
    ⟨(some 99), none, .idx (.t 97) (.t 98) 2⟩,
    ⟨(some 100), none, .load (.t 99) (some 2)⟩,
    ⟨(some 101), none, .eqv true true [.i, .i] (.t 96) (.t 100)⟩])
  (.cond (.t 101) (.seq (.region [⟨(some 8), none, .mov (.c (.bool false))⟩])
  (.ret))
  (.skip))))
  (.region [⟨(some 91), none, .mov (.t 21)⟩,
    ⟨(some 92), none, .bin .add (.t 91) (.c (.int .i64 1))⟩,
    ⟨(some 21), none, .mov (.t 92)⟩]))))))
  (.seq (.region [⟨(some 8), none, .mov (.c (.bool true))⟩])
  (.ret)))))))))))
def r49 : List Res := [.t 8]
def a49 : AFn := ⟨4, c49, r49, .v⟩

/-- bijou/bijoulaw01.has -/
def c50 : ACode := .seq (.region [⟨(some 4), none, .mov (.c (.bool false))⟩])
  (.seq (.seq (.region [⟨(some 5), none, .mov (.c (.int .i64 0))⟩])
  (.block 0 (.loop (.seq (.seq (.region [⟨(some 6), none, .mov (.t 5)⟩,
    ⟨(some 7), none, .mov (.t 0)⟩,
    ⟨(some 8), none, .len (.t 7)⟩,
    ⟨(some 9), none, .bin .lss (.t 6) (.t 8)⟩])
  (.cond (.t 9) (.skip)
  (.exit 0)))
  (.seq (.block 1 (.seq (.region [⟨(some 12), none, .mov (.t 0)⟩,
    ⟨(some 13), none, .mov (.t 5)⟩,
    ⟨(some 14), none, .idx (.t 12) (.t 13) 1⟩,
    ⟨(some 15), none, .load (.t 14) none⟩,
    ⟨(some 16), none, .mov (.t 1)⟩,
    ⟨(some 17), none, .bin .eql (.t 15) (.t 16)⟩])
  (.cond (.t 17) (.seq (.region [⟨(some 4), none, .mov (.c (.bool true))⟩])
  (.ret))
  (.skip))))
  (.region [⟨(some 10), none, .mov (.t 5)⟩,
    ⟨(some 11), none, .bin .add (.t 10) (.c (.int .i64 1))⟩,
    ⟨(some 5), none, .mov (.t 11)⟩]))))))
  (.seq (.region [⟨(some 4), none, .mov (.c (.bool false))⟩])
  (.ret)))
def r50 : List Res := [.t 4]
def a50 : AFn := ⟨2, c50, r50, .v⟩

/-- bijou/bijoulaw01.Example -/
def c51 : ACode := .seq (.region [⟨(some 0), none, .new (.agg [(.int .i64 0), (.sl [] .tight)]) 2⟩])
  (.seq (.region [⟨(some 1), none, .build [(.int .i64 0), (.int .i64 0)] [(0, 1, (.c (.int .i64 1))), (1, 1, (.c (.int .i64 2)))]⟩,
    ⟨(some 2), none, .build [(.int .i64 0), (.int .i64 0), (.int .i64 0), (.int .i64 0), (.int .i64 0)] [(0, 1, (.c (.int .i64 1))), (1, 1, (.c (.int .i64 2))), (2, 1, (.c (.int .i64 4))), (3, 2, (.t 1))]⟩,
    ⟨(some 3), none, .build [(.int .i64 0), (.int .i64 0)] [(0, 1, (.c (.int .i64 1))), (1, 1, (.c (.int .i64 1)))]⟩,
    ⟨(some 4), none, .build [(.int .i64 0), (.int .i64 0), (.int .i64 0), (.int .i64 0), (.int .i64 0)] [(0, 1, (.c (.int .i64 1))), (1, 1, (.c (.int .i64 6))), (2, 1, (.c (.int .i64 7))), (3, 2, (.t 3))]⟩,
    ⟨(some 5), none, .build [(.int .i64 0), (.int .i64 0), (.int .i64 0), (.int .i64 0), (.int .i64 0)] [(0, 1, (.c (.int .i64 2))), (1, 1, (.c (.int .i64 2))), (2, 1, (.c (.int .i64 2)))]⟩,
    ⟨(some 6), none, .lit false 37 5 [(.t 2), (.t 4), (.t 5)]⟩,
    ⟨(some 7), none, .build [(.int .i64 0), (.sl [] .tight)] [(0, 1, (.c (.int .i64 8))), (1, 1, (.t 6))]⟩,
    ⟨none, none, .store (.t 0) (.t 7) 2⟩])
  (.ret))
def r51 : List Res := [.cell 0 (some 2)]
def a51 : AFn := ⟨0, c51, r51, .v⟩

/-- bijou/reel.truths -/
def c52 : ACode := .seq (.region [⟨(some 1), none, .box (.t 0) 2⟩,
    ⟨(some 2), none, .mov (.c (.sl [] .tight))⟩])
  (.seq (.region [⟨(some 7), none, .load (.t 1) (some 2)⟩,
    ⟨(some 8), none, .call 78 [(.t 7)]⟩,
    ⟨(some 3), none, .new (.sl [] .tight) 1⟩,
    ⟨none, none, .store (.t 3) (.t 8) 1⟩])
  (.seq (.region [⟨(some 4), none, .new (.sl [] .tight) 1⟩])
  (.seq (.seq (.region [⟨(some 9), none, .load (.t 1) (some 2)⟩,
    ⟨(some 10), none, .call 79 [(.t 9), (.c (.int .i64 0))]⟩,
    ⟨(some 11), none, .idx (.t 10) (.c (.int .i64 0)) 1⟩,
    ⟨(some 12), none, .load (.t 11) none⟩,
    ⟨(some 13), none, .clo 80 [(.t 12)] []⟩])
  (.block 0 (.range (.t 13) [14] (.region [⟨(some 5), none, .mov (.t 14)⟩])
  (.block 1 (.seq (.region [⟨(some 15), none, .addr (.t 1) 0⟩,
    ⟨(some 16), none, .load (.t 15) none⟩,
    ⟨(some 17), none, .call 75 [(.t 16)]⟩,
    ⟨(some 18), none, .mov (.t 5)⟩,
    ⟨(some 19), none, .bin .andNot (.t 17) (.t 18)⟩,
    ⟨(some 6), none, .mov (.t 19)⟩])
  (.seq (.region [⟨(some 20), none, .load (.t 3) none⟩,
    ⟨(some 21), none, .mov (.t 6)⟩,
    ⟨(some 22), none, .call 81 [(.t 20), (.t 21)]⟩,
    ⟨(some 23), none, .bin .eql (.t 22) (.c (.int .i64 0))⟩])
  (.cond (.t 23) (.region [⟨(some 24), none, .load (.t 4) none⟩,
    ⟨(some 25), none, .mov (.t 6)⟩,
    ⟨(some 26), none, .lit false 86 1 [(.t 25)]⟩,
    ⟨(some 27), none, .app false (.t 24) (.t 26) 86 1 2⟩,
    ⟨none, none, .store (.t 4) (.t 27) 1⟩])
  (.skip))))))))
  (.seq (.region [⟨(some 28), none, .load (.t 4) none⟩,
    ⟨(some 2), none, .mov (.t 28)⟩])
  (.ret)))))
def r52 : List Res := [.t 2]
def a52 : AFn := ⟨1, c52, r52, .v⟩

/-- bijou/bijouref01.Truths -/
def c53 : ACode := .seq (.region [⟨(some 1), none, .box (.t 0) 2⟩,
    ⟨(some 2), none, .mov (.c (.sl [] .tight))⟩])
  (.seq (.region [⟨(some 3), none, .mov (.c (.sl [] .tight))⟩])
  (.seq (.region [⟨(some 6), none, .load (.t 1) (some 2)⟩,
    ⟨(some 7), none, .call 55 [(.t 6)]⟩,
    ⟨(some 4), none, .mov (.t 7)⟩])
  (.seq (.seq (.region [⟨(some 5), none, .mov (.c (.int .i64 0))⟩])
  (.block 0 (.loop (.seq (.seq (.region [⟨(some 8), none, .mov (.t 5)⟩,
    ⟨(some 9), none, .mov (.t 4)⟩,
    ⟨(some 10), none, .len (.t 9)⟩,
    ⟨(some 11), none, .bin .lss (.t 8) (.t 10)⟩])
  (.cond (.t 11) (.skip)
  (.exit 0)))
  (.seq (.block 1 (.seq (.region [⟨(some 14), none, .mov (.t 4)⟩,
    ⟨(some 15), none, .mov (.t 5)⟩,
    ⟨(some 16), none, .idx (.t 14) (.t 15) 1⟩,
    ⟨(some 17), none, .load (.t 16) none⟩,
    ⟨(some 18), none, .bin .eql (.t 17) (.c (.int .i64 0))⟩])
  (.cond (.t 18) (.region [⟨(some 19), none, .mov (.t 3)⟩,
    ⟨(some 20), none, .mov (.t 5)⟩,
    ⟨(some 21), none, .lit false 3 1 [(.t 20)]⟩,
    ⟨(some 22), none, .app false (.t 19) (.t 21) 3 1 8⟩,
    ⟨(some 3), none, .mov (.t 22)⟩])
  (.skip))))
  (.region [⟨(some 12), none, .mov (.t 5)⟩,
    ⟨(some 13), none, .bin .add (.t 12) (.c (.int .i64 1))⟩,
    ⟨(some 5), none, .mov (.t 13)⟩]))))))
  (.seq (.region [⟨(some 23), none, .mov (.t 3)⟩,
    ⟨(some 2), none, .mov (.t 23)⟩])
  (.ret)))))
def r53 : List Res := [.t 2]
def a53 : AFn := ⟨1, c53, r53, .v⟩

/-- bijou/reel.fewestDropped -/
def c54 : ACode := .seq (.region [⟨(some 1), none, .box (.t 0) 2⟩,
    ⟨(some 2), none, .mov (.c (.int .i64 0))⟩])
  (.seq (.region [⟨(some 8), none, .load (.t 1) (some 2)⟩,
    ⟨(some 9), none, .call 78 [(.t 8)]⟩,
    ⟨(some 3), none, .new (.sl [] .tight) 1⟩,
    ⟨none, none, .store (.t 3) (.t 9) 1⟩])
  (.seq (.region [⟨(some 10), none, .addr (.t 1) 1⟩,
    ⟨(some 11), none, .load (.t 10) none⟩,
    ⟨(some 12), none, .len (.t 11)⟩,
    ⟨(some 4), none, .new (.int .i64 0) 1⟩,
    ⟨none, none, .store (.t 4) (.t 12) 1⟩])
  (.seq (.seq (.region [⟨(some 13), none, .load (.t 1) (some 2)⟩,
    ⟨(some 14), none, .load (.t 1) (some 2)⟩,
    ⟨(some 15), none, .call 82 [(.t 14)]⟩,
    ⟨(some 16), none, .len (.t 15)⟩,
    ⟨(some 17), none, .call 79 [(.t 13), (.t 16)]⟩,
    ⟨(some 18), none, .len (.t 17)⟩,
    ⟨(some 19), none, .mov (.c (.int .i64 0))⟩])
  (.block 0 (.loop (.seq (.region [⟨(some 20), none, .bin .lss (.t 19) (.t 18)⟩])
  (.seq (.cond (.t 20) (.skip)
  (.exit 0))
  (.seq (.block 1 (.seq (.region [⟨(some 21), none, .mov (.t 19)⟩,
    ⟨(some 22), none, .idx (.t 17) (.t 19) 1⟩,
    ⟨(some 23), none, .load (.t 22) none⟩,
    ⟨(some 5), none, .new (.int .i64 0) 1⟩,
    ⟨none, none, .store (.t 5) (.t 21) 1⟩,
    ⟨(some 6), none, .mov (.t 23)⟩])
  (.seq (.region [⟨(some 24), none, .mov (.t 6)⟩,
    ⟨(some 25), none, .clo 80 [(.t 24)] []⟩])
  (.block 2 (.range (.t 25) [26] (.region [⟨(some 7), none, .mov (.t 26)⟩])
  (.block 3 (.region [⟨(some 27), none, .load (.t 4) none⟩,
    ⟨(some 28), none, .load (.t 5) none⟩,
    ⟨(some 29), none, .load (.t 3) none⟩,
    ⟨(some 30), none, .addr (.t 1) 0⟩,
    ⟨(some 31), none, .load (.t 30) none⟩,
    ⟨(some 32), none, .call 75 [(.t 31)]⟩,
    ⟨(some 33), none, .mov (.t 7)⟩,
    ⟨(some 34), none, .bin .andNot (.t 32) (.t 33)⟩,
    ⟨(some 35), none, .call 81 [(.t 29), (.t 34)]⟩,
    ⟨(some 36), none, .bin .add (.t 28) (.t 35)⟩,
    ⟨(some 37), none, .mnx false (.t 27) (.t 36)⟩,
    ⟨none, none, .store (.t 4) (.t 37) 1⟩])))))))
  (.region [⟨(some 38), none, .bin .add (.t 19) (.c (.int .i64 1))⟩,
    ⟨(some 19), none, .mov (.t 38)⟩])))))))
  (.seq (.region [⟨(some 39), none, .load (.t 4) none⟩,
    ⟨(some 2), none, .mov (.t 39)⟩])
  (.ret)))))
def r54 : List Res := [.t 2]
def a54 : AFn := ⟨1, c54, r54, .v⟩

/-- bijou/bijouref01.costs -/
def c55 : ACode := .seq (.region [⟨(some 1), none, .box (.t 0) 2⟩,
    ⟨(some 2), none, .mov (.c (.sl [] .tight))⟩])
  (.seq (.region [⟨(some 16), none, .addr (.t 1) 0⟩,
    ⟨(some 17), none, .load (.t 16) none⟩,
    ⟨(some 18), none, .conv .u64 (.t 17)⟩,
    ⟨(some 19), none, .bin .shl (.c (.int .i64 1)) (.t 18)⟩,
    ⟨(some 20), none, .bin .sub (.t 19) (.c (.int .i64 1))⟩,
    ⟨(some 3), none, .mov (.t 20)⟩])
  (.seq (.region [⟨(some 21), none, .mov (.t 3)⟩,
    ⟨(some 22), none, .bin .add (.t 21) (.c (.int .i64 1))⟩,
    ⟨(some 23), none, .make (.int .i64 0) 3 1 8 (.t 22) (.t 22)⟩,
    ⟨(some 4), none, .mov (.t 23)⟩])
  (.seq (.seq (.region [⟨(some 5), none, .mov (.c (.int .i64 0))⟩])
  (.block 0 (.loop (.seq (.seq (.region [⟨(some 24), none, .mov (.t 5)⟩,
    ⟨(some 25), none, .mov (.t 3)⟩,
    ⟨(some 26), none, .bin .lss (.t 24) (.t 25)⟩])
  (.cond (.t 26) (.skip)
  (.exit 0)))
  (.seq (.block 1 (.region [⟨(some 29), none, .mov (.t 4)⟩,
    ⟨(some 30), none, .mov (.t 5)⟩,
    ⟨(some 31), none, .idx (.t 29) (.t 30) 1⟩,
    ⟨none, none, .store (.t 31) (.c (.int .i64 11)) 1⟩]))
  (.region [⟨(some 27), none, .mov (.t 5)⟩,
    ⟨(some 28), none, .bin .add (.t 27) (.c (.int .i64 1))⟩,
    ⟨(some 5), none, .mov (.t 28)⟩]))))))
  (.seq (.seq (.region [⟨(some 6), none, .mov (.c (.int .i64 0))⟩])
  (.block 2 (.loop (.seq (.seq (.region [⟨(some 32), none, .mov (.t 6)⟩,
    ⟨(some 33), none, .addr (.t 1) 1⟩,
    ⟨(some 34), none, .load (.t 33) none⟩,
    ⟨(some 35), none, .len (.t 34)⟩,
    ⟨(some 36), none, .bin .lss (.t 32) (.t 35)⟩])
  (.cond (.t 36) (.skip)
  (.exit 2)))
  (.seq (.block 3 (.seq (.region [⟨(some 39), none, .addr (.t 1) 1⟩,
    ⟨(some 40), none, .load (.t 39) none⟩,
    ⟨(some 41), none, .mov (.t 6)⟩,
    ⟨(some 42), none, .idx (.t 40) (.t 41) 5⟩,
    ⟨(some 43), none, .load (.t 42) (some 5)⟩,
    ⟨(some 7), none, .new (.agg [(.int .i64 0), (.int .i64 0), (.int .i64 0), (.int .i64 0), (.int .i64 0)]) 5⟩,
    ⟨none, none, .store (.t 7) (.t 43) 5⟩])
  (.seq (.seq (.region [⟨(some 44), none, .addr (.t 7) 0⟩,
    ⟨(some 45), none, .load (.t 44) none⟩,
    ⟨(some 46), none, .bin .neq (.t 45) (.c (.int .i64 1))⟩])
  (.cond (.t 46) (.exit 3)
  (.skip)))
  (.seq (.region [⟨(some 47), none, .mov (.t 3)⟩,
    ⟨(some 48), none, .bin .add (.t 47) (.c (.int .i64 1))⟩,
    ⟨(some 49), none, .make (.int .i64 0) 3 1 8 (.t 48) (.t 48)⟩,
    ⟨(some 8), none, .mov (.t 49)⟩])
  (.seq (.seq (.region [⟨(some 9), none, .mov (.c (.int .i64 0))⟩])
  (.block 4 (.loop (.seq (.seq (.region [⟨(some 50), none, .mov (.t 9)⟩,
    ⟨(some 51), none, .mov (.t 3)⟩,
    ⟨(some 52), none, .bin .leq (.t 50) (.t 51)⟩])
  (.cond (.t 52) (.skip)
  (.exit 4)))
  (.seq (.block 5 (.region [⟨(some 55), none, .mov (.t 8)⟩,
    ⟨(some 56), none, .mov (.t 9)⟩,
    ⟨(some 57), none, .mov (.t 4)⟩,
    ⟨(some 58), none, .mov (.t 9)⟩,
    ⟨(some 59), none, .idx (.t 57) (.t 58) 1⟩,
    ⟨(some 60), none, .load (.t 59) none⟩,
    ⟨(some 61), none, .bin .add (.t 60) (.c (.int .i64 1))⟩,
    ⟨(some 62), none, .mnx false (.c (.int .i64 11)) (.t 61)⟩,
    ⟨(some 63), none, .idx (.t 55) (.t 56) 1⟩,
    ⟨none, none, .store (.t 63) (.t 62) 1⟩]))
  (.region [⟨(some 53), none, .mov (.t 9)⟩,
    ⟨(some 54), none, .bin .add (.t 53) (.c (.int .i64 1))⟩,
    ⟨(some 9), none, .mov (.t 54)⟩]))))))
  (.seq (.seq (.region [⟨(some 10), none, .mov (.c (.int .i64 0))⟩])
  (.block 6 (.loop (.seq (.seq (.region [⟨(some 64), none, .mov (.t 10)⟩,
    ⟨(some 65), none, .mov (.t 3)⟩,
    ⟨(some 66), none, .bin .leq (.t 64) (.t 65)⟩])
  (.cond (.t 66) (.skip)
  (.exit 6)))
  (.seq (.block 7 (.seq (.seq (.region [⟨(some 69), none, .mov (.t 4)⟩,
    ⟨(some 70), none, .mov (.t 10)⟩,
    ⟨(some 71), none, .idx (.t 69) (.t 70) 1⟩,
    ⟨(some 72), none, .load (.t 71) none⟩,
    ⟨(some 73), none, .bin .eql (.t 72) (.c (.int .i64 11))⟩])
  (.cond (.t 73) (.exit 7)
  (.skip)))
  (.seq (.seq (.region [⟨(some 74), none, .addr (.t 7) 3⟩,
    ⟨(some 75), none, .addr (.t 74) 0⟩,
    ⟨(some 76), none, .load (.t 75) none⟩,
    ⟨(some 77), none, .bin .eql (.t 76) (.c (.int .i64 0))⟩])
  (.cond (.t 77) (.region [⟨(some 78), none, .mov (.t 8)⟩,
    ⟨(some 79), none, .mov (.t 10)⟩,
    ⟨(some 80), none, .mov (.t 8)⟩,
    ⟨(some 81), none, .mov (.t 10)⟩,
    ⟨(some 82), none, .idx (.t 80) (.t 81) 1⟩,
    ⟨(some 83), none, .load (.t 82) none⟩,
    ⟨(some 84), none, .mov (.t 4)⟩,
    ⟨(some 85), none, .mov (.t 10)⟩,
    ⟨(some 86), none, .idx (.t 84) (.t 85) 1⟩,
    ⟨(some 87), none, .load (.t 86) none⟩,
    ⟨(some 88), none, .mnx false (.t 83) (.t 87)⟩,
    ⟨(some 89), none, .idx (.t 78) (.t 79) 1⟩,
    ⟨none, none, .store (.t 89) (.t 88) 1⟩])
  (.skip)))
  (.seq (.region [⟨(some 90), none, .addr (.t 7) 1⟩,
    ⟨(some 91), none, .load (.t 90) none⟩,
    ⟨(some 11), none, .mov (.t 91)⟩])
  (.block 8 (.loop (.seq (.seq (.region [⟨(some 92), none, .mov (.t 11)⟩,
    ⟨(some 93), none, .addr (.t 7) 2⟩,
    ⟨(some 94), none, .load (.t 93) none⟩,
    ⟨(some 95), none, .bin .leq (.t 92) (.t 94)⟩])
  (.cond (.t 95) (.skip)
  (.exit 8)))
  (.seq (.block 9 (.seq (.region [⟨(some 98), none, .mov (.t 11)⟩,
    ⟨(some 12), none, .mov (.t 98)⟩])
  (.block 10 (.loop (.seq (.seq (.region [⟨(some 99), none, .mov (.t 12)⟩,
    ⟨(some 100), none, .addr (.t 7) 2⟩,
    ⟨(some 101), none, .load (.t 100) none⟩,
    ⟨(some 102), none, .bin .leq (.t 99) (.t 101)⟩])
  (.cond (.t 102) (.skip)
  (.exit 10)))
  (.seq (.block 11 (.seq (.region [⟨(some 105), none, .mov (.t 12)⟩,
    ⟨(some 106), none, .mov (.t 11)⟩,
    ⟨(some 107), none, .bin .sub (.t 105) (.t 106)⟩,
    ⟨(some 108), none, .bin .add (.t 107) (.c (.int .i64 1))⟩,
    ⟨(some 109), none, .addr (.t 7) 3⟩,
    ⟨(some 110), none, .addr (.t 109) 0⟩,
    ⟨(some 111), none, .load (.t 110) none⟩,
    ⟨(some 112), none, .addr (.t 7) 3⟩,
    ⟨(some 113), none, .addr (.t 112) 1⟩,
    ⟨(some 114), none, .load (.t 113) none⟩,
    ⟨(some 115), none, .call 59 [(.t 108), (.t 111), (.t 114)]⟩])
  (.cond (.t 115) (.seq (.region [⟨(some 116), none, .mov (.t 10)⟩,
    ⟨(some 117), none, .mov (.t 11)⟩,
    ⟨(some 118), none, .mov (.t 12)⟩,
    ⟨(some 119), none, .call 83 [(.t 117), (.t 118)]⟩,
    ⟨(some 120), none, .bin .andNot (.t 116) (.t 119)⟩,
    ⟨(some 13), none, .mov (.t 120)⟩])
  (.region [⟨(some 121), none, .mov (.t 8)⟩,
    ⟨(some 122), none, .mov (.t 13)⟩,
    ⟨(some 123), none, .mov (.t 8)⟩,
    ⟨(some 124), none, .mov (.t 13)⟩,
    ⟨(some 125), none, .idx (.t 123) (.t 124) 1⟩,
    ⟨(some 126), none, .load (.t 125) none⟩,
    ⟨(some 127), none, .mov (.t 4)⟩,
    ⟨(some 128), none, .mov (.t 10)⟩,
    ⟨(some 129), none, .idx (.t 127) (.t 128) 1⟩,
    ⟨(some 130), none, .load (.t 129) none⟩,
    ⟨(some 131), none, .mnx false (.t 126) (.t 130)⟩,
    ⟨(some 132), none, .idx (.t 121) (.t 122) 1⟩,
    ⟨none, none, .store (.t 132) (.t 131) 1⟩]))
  (.skip))))
  (.region [⟨(some 103), none, .mov (.t 12)⟩,
    ⟨(some 104), none, .bin .add (.t 103) (.c (.int .i64 1))⟩,
    ⟨(some 12), none, .mov (.t 104)⟩])))))))
  (.region [⟨(some 96), none, .mov (.t 11)⟩,
    ⟨(some 97), none, .bin .add (.t 96) (.c (.int .i64 1))⟩,
    ⟨(some 11), none, .mov (.t 97)⟩])))))))))
  (.region [⟨(some 67), none, .mov (.t 10)⟩,
    ⟨(some 68), none, .bin .add (.t 67) (.c (.int .i64 1))⟩,
    ⟨(some 10), none, .mov (.t 68)⟩]))))))
  (.region [⟨(some 133), none, .mov (.t 8)⟩,
    ⟨(some 4), none, .mov (.t 133)⟩])))))))
  (.region [⟨(some 37), none, .mov (.t 6)⟩,
    ⟨(some 38), none, .bin .add (.t 37) (.c (.int .i64 1))⟩,
    ⟨(some 6), none, .mov (.t 38)⟩]))))))
  (.seq (.seq (.region [⟨(some 14), none, .mov (.c (.int .i64 0))⟩])
  (.block 12 (.loop (.seq (.seq (.region [⟨(some 134), none, .mov (.t 14)⟩,
    ⟨(some 135), none, .addr (.t 1) 1⟩,
    ⟨(some 136), none, .load (.t 135) none⟩,
    ⟨(some 137), none, .len (.t 136)⟩,
    ⟨(some 138), none, .bin .lss (.t 134) (.t 137)⟩])
  (.cond (.t 138) (.skip)
  (.exit 12)))
  (.seq (.block 13 (.seq (.region [⟨(some 15), none, .mov (.c (.int .i64 0))⟩])
  (.block 14 (.loop (.seq (.seq (.region [⟨(some 141), none, .mov (.t 15)⟩,
    ⟨(some 142), none, .mov (.t 3)⟩,
    ⟨(some 143), none, .bin .leq (.t 141) (.t 142)⟩,
    ⟨(some 144), none, .mov (.t 143)⟩,
    ⟨(some 145), some (144, true), .addr (.t 1) 1⟩,
    ⟨(some 146), some (144, true), .load (.t 145) none⟩,
    ⟨(some 147), some (144, true), .mov (.t 14)⟩,
    ⟨(some 148), some (144, true), .idx (.t 146) (.t 147) 5⟩,
    ⟨(some 149), some (144, true), .addr (.t 148) 0⟩,
    ⟨(some 150), some (144, true), .load (.t 149) none⟩,
    ⟨(some 151), some (144, true), .bin .neq (.t 150) (.c (.int .i64 1))⟩,
    ⟨(some 152), none, .pick (.t 144) (.t 151) (.c (.bool false))⟩])
  (.cond (.t 152) (.skip)
  (.exit 14)))
  (.seq (.block 15 (.seq (.region [⟨(some 155), none, .mov (.t 15)⟩,
    ⟨(some 156), none, .addr (.t 1) 0⟩,
    ⟨(some 157), none, .load (.t 156) none⟩,
    ⟨(some 158), none, .addr (.t 1) 1⟩,
    ⟨(some 159), none, .load (.t 158) none⟩,
    ⟨(some 160), none, .mov (.t 14)⟩,
    ⟨(some 161), none, .idx (.t 159) (.t 160) 5⟩,
    ⟨(some 162), none, .load (.t 161) (some 5)⟩,
    ⟨(some 163), none, .call 76 [(.t 155), (.t 157), (.t 162)]⟩,
    ⟨(some 164), none, .not (.t 163)⟩])
  (.cond (.t 164) (.region [⟨(some 165), none, .mov (.t 4)⟩,
    ⟨(some 166), none, .mov (.t 15)⟩,
    ⟨(some 167), none, .mov (.t 4)⟩,
    ⟨(some 168), none, .mov (.t 15)⟩,
    ⟨(some 169), none, .idx (.t 167) (.t 168) 1⟩,
    ⟨(some 170), none, .load (.t 169) none⟩,
    ⟨(some 171), none, .bin .add (.t 170) (.c (.int .i64 1))⟩,
    ⟨(some 172), none, .mnx false (.c (.int .i64 11)) (.t 171)⟩,
    ⟨(some 173), none, .idx (.t 165) (.t 166) 1⟩,
    ⟨none, none, .store (.t 173) (.t 172) 1⟩])
  (.skip))))
  (.region [⟨(some 153), none, .mov (.t 15)⟩,
    ⟨(some 154), none, .bin .add (.t 153) (.c (.int .i64 1))⟩,
    ⟨(some 15), none, .mov (.t 154)⟩])))))))
  (.region [⟨(some 139), none, .mov (.t 14)⟩,
    ⟨(some 140), none, .bin .add (.t 139) (.c (.int .i64 1))⟩,
    ⟨(some 14), none, .mov (.t 140)⟩]))))))
  (.seq (.region [⟨(some 174), none, .mov (.t 4)⟩,
    ⟨(some 2), none, .mov (.t 174)⟩])
  (.ret)))))))
def r55 : List Res := [.t 2]
def a55 : AFn := ⟨1, c55, r55, .v⟩

/-- bijou/reel.Check$1 -/
def c56 : ACode := .seq (.region [⟨(some 2), none, .box (.t 0) 5⟩,
    ⟨(some 3), none, .mov (.c (.bool false))⟩])
  (.seq (.region [⟨(some 4), none, .load (.t 2) (some 5)⟩,
    ⟨(some 5), none, .addr (.t 1) 0⟩,
    ⟨(some 6), none, .load (.t 5) none⟩,
    ⟨(some 7), none, .call 57 [(.t 4), (.t 6)]⟩,
    ⟨(some 8), none, .not (.t 7)⟩,
    ⟨(some 3), none, .mov (.t 8)⟩])
  (.ret))
def r56 : List Res := [.t 3]
def a56 : AFn := ⟨2, c56, r56, .v⟩

/-- bijou/reel.described -/
def c57 : ACode := .seq (.region [⟨(some 2), none, .box (.t 0) 5⟩,
    ⟨(some 4), none, .mov (.c (.bool false))⟩])
  (.seq (.seq (.region [⟨(some 5), none, .addr (.t 2) 0⟩,
    ⟨(some 6), none, .load (.t 5) none⟩])
  (.block 0 (.seq (.region [⟨(some 8), none, .bin .eql (.t 6) (.c (.int .i64 1))⟩,
    ⟨(some 7), none, .mov (.t 8)⟩])
  (.cond (.t 7) (.seq (.region [⟨(some 9), none, .addr (.t 2) 1⟩,
    ⟨(some 10), none, .load (.t 9) none⟩,
    ⟨(some 11), none, .addr (.t 2) 2⟩,
    ⟨(some 12), none, .load (.t 11) none⟩,
    ⟨(some 13), none, .mov (.t 1)⟩,
    ⟨(some 14), none, .call 69 [(.t 10), (.t 12), (.t 13)]⟩,
    ⟨(some 15), none, .mov (.t 14)⟩,
    ⟨(some 16), some (15, true), .addr (.t 2) 3⟩,
    ⟨(some 17), some (15, true), .load (.t 16) (some 2)⟩,
    ⟨(some 18), some (15, true), .call 84 [(.t 17)]⟩,
    ⟨(some 19), none, .pick (.t 15) (.t 18) (.c (.bool false))⟩,
    ⟨(some 4), none, .mov (.t 19)⟩])
  (.ret))
  (.seq (.seq (.region [⟨(some 21), none, .bin .eql (.t 6) (.c (.int .i64 2))⟩,
    ⟨(some 20), none, .mov (.t 21)⟩])
  (.cond (.t 20) (.skip)
  (.region [⟨(some 22), none, .bin .eql (.t 6) (.c (.int .i64 3))⟩,
    ⟨(some 20), none, .mov (.t 22)⟩])))
  (.cond (.t 20) (.seq (.region [⟨(some 23), none, .addr (.t 2) 1⟩,
    ⟨(some 24), none, .load (.t 23) none⟩,
    ⟨(some 25), none, .addr (.t 2) 2⟩,
    ⟨(some 26), none, .load (.t 25) none⟩,
    ⟨(some 27), none, .mov (.t 1)⟩,
    ⟨(some 28), none, .call 69 [(.t 24), (.t 26), (.t 27)]⟩,
    ⟨(some 29), none, .mov (.t 28)⟩,
    ⟨(some 30), some (29, true), .addr (.t 2) 3⟩,
    ⟨(some 31), some (29, true), .load (.t 30) (some 2)⟩,
    ⟨(some 32), some (29, true), .build [(.int .i64 0), (.int .i64 0)] []⟩,
    ⟨(some 33), some (29, true), .eqv false true [.i, .i] (.t 31) (.t 32)⟩,
    ⟨(some 34), none, .pick (.t 29) (.t 33) (.c (.bool false))⟩,
    ⟨(some 4), none, .mov (.t 34)⟩])
  (.ret))
  (.seq (.seq (.region [⟨(some 36), none, .bin .eql (.t 6) (.c (.int .i64 4))⟩,
    ⟨(some 35), none, .mov (.t 36)⟩])
  (.cond (.t 35) (.skip)
  (.region [⟨(some 37), none, .bin .eql (.t 6) (.c (.int .i64 5))⟩,
    ⟨(some 35), none, .mov (.t 37)⟩])))
  (.cond (.t 35) (.seq (.region [⟨(some 38), none, .addr (.t 2) 1⟩,
    ⟨(some 39), none, .load (.t 38) none⟩,
    ⟨(some 40), none, .bin .eql (.t 39) (.c (.int .i64 0))⟩,
    ⟨(some 41), none, .mov (.t 40)⟩,
    ⟨(some 42), some (41, true), .addr (.t 2) 2⟩,
    ⟨(some 43), some (41, true), .load (.t 42) none⟩,
    ⟨(some 44), some (41, true), .bin .eql (.t 43) (.c (.int .i64 0))⟩,
    ⟨(some 45), none, .pick (.t 41) (.t 44) (.c (.bool false))⟩,
    ⟨(some 46), none, .mov (.t 45)⟩,
    ⟨(some 47), some (46, true), .addr (.t 2) 3⟩,
    ⟨(some 48), some (46, true), .load (.t 47) (some 2)⟩,
    ⟨(some 49), some (46, true), .call 84 [(.t 48)]⟩,
    ⟨(some 50), none, .pick (.t 46) (.t 49) (.c (.bool false))⟩,
    ⟨(some 4), none, .mov (.t 50)⟩])
  (.ret))
  (.skip)))))))))
  (.seq (.region [⟨(some 4), none, .mov (.c (.bool false))⟩])
  (.ret)))
def r57 : List Res := [.t 4]
def a57 : AFn := ⟨2, c57, r57, .v⟩

/-- slices.ContainsFunc[[]bijou/api.Mark,bijou/api.Mark] -/
def c58 : ACode := .seq (.region [⟨(some 4), none, .mov (.c (.bool false))⟩])
  (.seq (.region [⟨(some 5), none, .mov (.t 0)⟩,
    ⟨(some 6), none, .mov (.t 1)⟩,
    ⟨(some 7), none, .call 85 [(.t 5), (.t 6)]⟩,
    ⟨(some 8), none, .bin .geq (.t 7) (.c (.int .i64 0))⟩,
    ⟨(some 4), none, .mov (.t 8)⟩])
  (.ret))
def r58 : List Res := [.t 4]
def a58 : AFn := ⟨2, c58, r58, .v⟩

/-- bijou/bijouref01.within -/
def c59 : ACode := .seq (.region [⟨(some 6), none, .mov (.c (.bool false))⟩])
  (.seq (.region [⟨(some 7), none, .mov (.t 0)⟩,
    ⟨(some 8), none, .mov (.t 1)⟩,
    ⟨(some 9), none, .bin .geq (.t 7) (.t 8)⟩,
    ⟨(some 10), none, .mov (.t 9)⟩,
    ⟨(some 11), some (10, true), .mov (.t 0)⟩,
    ⟨(some 12), some (10, true), .mov (.t 2)⟩,
    ⟨(some 13), some (10, true), .bin .leq (.t 11) (.t 12)⟩,
    ⟨(some 14), none, .pick (.t 10) (.t 13) (.c (.bool false))⟩,
    ⟨(some 6), none, .mov (.t 14)⟩])
  (.ret))
def r59 : List Res := [.t 6]
def a59 : AFn := ⟨3, c59, r59, .v⟩

/-- bijou/bijouref01.isMark -/
def c60 : ACode := .seq (.region [⟨(some 3), none, .box (.t 1) 5⟩,
    ⟨(some 4), none, .mov (.c (.bool false))⟩])
  (.seq (.region [⟨(some 7), none, .addr (.t 3) 3⟩,
    ⟨(some 8), none, .addr (.t 7) 0⟩,
    ⟨(some 9), none, .load (.t 8) none⟩,
    ⟨(some 10), none, .addr (.t 3) 3⟩,
    ⟨(some 11), none, .addr (.t 10) 1⟩,
    ⟨(some 12), none, .load (.t 11) none⟩,
    ⟨(some 13), none, .call 59 [(.t 9), (.c (.int .i64 0)), (.t 12)]⟩,
    ⟨(some 14), none, .mov (.t 13)⟩,
    ⟨(some 15), some (14, true), .addr (.t 3) 3⟩,
    ⟨(some 16), some (14, true), .addr (.t 15) 1⟩,
    ⟨(some 17), some (14, true), .load (.t 16) none⟩,
    ⟨(some 18), some (14, true), .bin .leq (.t 17) (.c (.int .i64 16))⟩,
    ⟨(some 19), none, .pick (.t 14) (.t 18) (.c (.bool false))⟩,
    ⟨(some 5), none, .mov (.t 19)⟩])
  (.seq (.region [⟨(some 20), none, .addr (.t 3) 1⟩,
    ⟨(some 21), none, .load (.t 20) none⟩,
    ⟨(some 22), none, .addr (.t 3) 2⟩,
    ⟨(some 23), none, .load (.t 22) none⟩,
    ⟨(some 24), none, .call 59 [(.t 21), (.c (.int .i64 0)), (.t 23)]⟩,
    ⟨(some 25), none, .mov (.t 24)⟩,
    ⟨(some 26), some (25, true), .addr (.t 3) 2⟩,
    ⟨(some 27), some (25, true), .load (.t 26) none⟩,
    ⟨(some 28), some (25, true), .mov (.t 0)⟩,
    ⟨(some 29), some (25, true), .bin .lss (.t 27) (.t 28)⟩,
    ⟨(some 30), none, .pick (.t 25) (.t 29) (.c (.bool false))⟩,
    ⟨(some 6), none, .mov (.t 30)⟩])
  (.seq (.seq (.region [⟨(some 31), none, .addr (.t 3) 0⟩,
    ⟨(some 32), none, .load (.t 31) none⟩])
  (.block 0 (.seq (.region [⟨(some 34), none, .bin .eql (.t 32) (.c (.int .i64 1))⟩,
    ⟨(some 33), none, .mov (.t 34)⟩])
  (.cond (.t 33) (.seq (.region [⟨(some 35), none, .mov (.t 5)⟩,
    ⟨(some 36), none, .mov (.t 35)⟩,
    ⟨(some 37), some (36, true), .mov (.t 6)⟩,
    ⟨(some 38), none, .pick (.t 36) (.t 37) (.c (.bool false))⟩,
    ⟨(some 4), none, .mov (.t 38)⟩])
  (.ret))
  (.seq (.seq (.region [⟨(some 40), none, .bin .eql (.t 32) (.c (.int .i64 2))⟩,
    ⟨(some 39), none, .mov (.t 40)⟩])
  (.cond (.t 39) (.skip)
  (.region [⟨(some 41), none, .bin .eql (.t 32) (.c (.int .i64 3))⟩,
    ⟨(some 39), none, .mov (.t 41)⟩])))
  (.cond (.t 39) (.seq (.region [⟨(some 42), none, .mov (.t 6)⟩,
    ⟨(some 43), none, .mov (.t 42)⟩,
    ⟨(some 44), some (43, true), .addr (.t 3) 3⟩,
    ⟨(some 45), some (43, true), .load (.t 44) (some 2)⟩,
    ⟨(some 46), some (43, true), .build [(.int .i64 0), (.int .i64 0)] []⟩,
    ⟨(some 47), some (43, true), .eqv false true [.i, .i] (.t 45) (.t 46)⟩,
    ⟨(some 48), none, .pick (.t 43) (.t 47) (.c (.bool false))⟩,
    ⟨(some 4), none, .mov (.t 48)⟩])
  (.ret))
  (.seq (.seq (.region [⟨(some 50), none, .bin .eql (.t 32) (.c (.int .i64 4))⟩,
    ⟨(some 49), none, .mov (.t 50)⟩])
  (.cond (.t 49) (.skip)
  (.region [⟨(some 51), none, .bin .eql (.t 32) (.c (.int .i64 5))⟩,
    ⟨(some 49), none, .mov (.t 51)⟩])))
  (.cond (.t 49) (.seq (.region [⟨(some 52), none, .mov (.t 5)⟩,
    ⟨(some 53), none, .mov (.t 52)⟩,
    ⟨(some 54), some (53, true), .addr (.t 3) 1⟩,
    ⟨(some 55), some (53, true), .load (.t 54) none⟩,
    ⟨(some 56), some (53, true), .bin .eql (.t 55) (.c (.int .i64 0))⟩,
    ⟨(some 57), none, .pick (.t 53) (.t 56) (.c (.bool false))⟩,
    ⟨(some 58), none, .mov (.t 57)⟩,
    ⟨(some 59), some (58, true), .addr (.t 3) 2⟩,
    ⟨(some 60), some (58, true), .load (.t 59) none⟩,
    ⟨(some 61), some (58, true), .bin .eql (.t 60) (.c (.int .i64 0))⟩,
    ⟨(some 62), none, .pick (.t 58) (.t 61) (.c (.bool false))⟩,
    ⟨(some 4), none, .mov (.t 62)⟩])
  (.ret))
  (.skip)))))))))
  (.seq (.region [⟨(some 4), none, .mov (.c (.bool false))⟩])
  (.ret)))))
def r60 : List Res := [.t 4]
def a60 : AFn := ⟨2, c60, r60, .v⟩

/-- bijou/reel.bounds -/
def c61 : ACode := .seq (.region [⟨(some 2), none, .box (.t 0) 2⟩,
    ⟨(some 4), none, .new (.agg [(.int .i64 0), (.int .i64 0)]) 2⟩,
    ⟨(some 5), none, .mov (.c (.int .i64 0))⟩])
  (.seq (.seq (.region [⟨(some 13), none, .load (.t 2) (some 2)⟩,
    ⟨(some 14), none, .call 21 [(.t 13)]⟩,
    ⟨(some 6), none, .mov (.t 14)⟩])
  (.seq (.region [⟨(some 15), none, .mov (.t 6)⟩,
    ⟨(some 16), none, .bin .neq (.t 15) (.c (.int .i64 0))⟩])
  (.cond (.t 16) (.seq (.region [⟨(some 17), none, .build [(.int .i64 0), (.int .i64 0)] []⟩,
    ⟨(some 18), none, .mov (.t 6)⟩,
    ⟨none, none, .store (.t 4) (.t 17) 2⟩,
    ⟨(some 5), none, .mov (.t 18)⟩])
  (.ret))
  (.skip))))
  (.seq (.region [⟨(some 19), none, .load (.t 2) (some 2)⟩,
    ⟨(some 20), none, .call 52 [(.t 19)]⟩,
    ⟨(some 7), none, .mov (.t 20)⟩])
  (.seq (.seq (.region [⟨(some 21), none, .mov (.t 7)⟩,
    ⟨(some 22), none, .len (.t 21)⟩,
    ⟨(some 23), none, .bin .eql (.t 22) (.c (.int .i64 0))⟩])
  (.cond (.t 23) (.seq (.region [⟨(some 24), none, .build [(.int .i64 0), (.int .i64 0)] []⟩,
    ⟨none, none, .store (.t 4) (.t 24) 2⟩,
    ⟨(some 5), none, .mov (.c (.int .i64 3))⟩])
  (.ret))
  (.skip)))
  (.seq (.region [⟨(some 25), none, .mov (.t 1)⟩,
    ⟨(some 26), none, .mov (.t 7)⟩,
    ⟨(some 27), none, .idx (.t 26) (.c (.int .i64 0)) 1⟩,
    ⟨(some 28), none, .load (.t 27) none⟩,
    ⟨(some 29), none, .callv (.t 25) [(.t 28)]⟩,
    ⟨(some 8), none, .mov (.t 29)⟩])
  (.seq (.region [⟨(some 30), none, .mov (.t 8)⟩,
    ⟨(some 31), none, .mov (.t 8)⟩,
    ⟨(some 32), none, .build [(.int .i64 0), (.int .i64 0)] [(0, 1, (.t 30)), (1, 1, (.t 31))]⟩,
    ⟨(some 9), none, .new (.agg [(.int .i64 0), (.int .i64 0)]) 2⟩,
    ⟨none, none, .store (.t 9) (.t 32) 2⟩])
  (.seq (.seq (.region [⟨(some 33), none, .mov (.t 7)⟩,
    ⟨(some 34), none, .slice (.t 33) (some (.c (.int .i64 1))) none 1⟩,
    ⟨(some 35), none, .len (.t 34)⟩,
    ⟨(some 36), none, .mov (.c (.int .i64 0))⟩])
  (.block 0 (.loop (.seq (.region [⟨(some 37), none, .bin .lss (.t 36) (.t 35)⟩])
  (.seq (.cond (.t 37) (.skip)
  (.exit 0))
  (.seq (.block 1 (.seq (.region [⟨(some 38), none, .idx (.t 34) (.t 36) 1⟩,
    ⟨(some 39), none, .load (.t 38) none⟩,
    ⟨(some 11), none, .mov (.t 39)⟩])
  (.seq (.region [⟨(some 40), none, .mov (.t 1)⟩,
    ⟨(some 41), none, .mov (.t 11)⟩,
    ⟨(some 42), none, .callv (.t 40) [(.t 41)]⟩,
    ⟨(some 12), none, .mov (.t 42)⟩])
  (.region [⟨(some 43), none, .addr (.t 9) 0⟩,
    ⟨(some 44), none, .load (.t 43) none⟩,
    ⟨(some 45), none, .mov (.t 12)⟩,
    ⟨(some 46), none, .mnx false (.t 44) (.t 45)⟩,
    ⟨(some 47), none, .addr (.t 9) 1⟩,
    ⟨(some 48), none, .load (.t 47) none⟩,
    ⟨(some 49), none, .mov (.t 12)⟩,
    ⟨(some 50), none, .mnx true (.t 48) (.t 49)⟩,
    ⟨(some 51), none, .addr (.t 9) 0⟩,
    ⟨none, none, .store (.t 51) (.t 46) 1⟩,
    ⟨(some 52), none, .addr (.t 9) 1⟩,
    ⟨none, none, .store (.t 52) (.t 50) 1⟩]))))
  (.region [⟨(some 53), none, .bin .add (.t 36) (.c (.int .i64 1))⟩,
    ⟨(some 36), none, .mov (.t 53)⟩])))))))
  (.seq (.region [⟨(some 54), none, .load (.t 9) (some 2)⟩,
    ⟨none, none, .store (.t 4) (.t 54) 2⟩,
    ⟨(some 5), none, .mov (.c (.int .i64 0))⟩])
  (.ret))))))))
def r61 : List Res := [.cell 4 (some 2), .t 5]
def a61 : AFn := ⟨2, c61, r61, .v⟩

/-- (bijou/reel.feet).count -/
def c62 : ACode := .seq (.region [⟨(some 2), none, .mov (.c (.int .i64 0))⟩])
  (.seq (.region [⟨(some 3), none, .mov (.t 0)⟩,
    ⟨(some 4), none, .call 86 [(.t 3)]⟩,
    ⟨(some 2), none, .mov (.t 4)⟩])
  (.ret))
def r62 : List Res := [.t 2]
def a62 : AFn := ⟨1, c62, r62, .v⟩

/-- bijou/bijouref01.whole -/
def c63 : ACode := .seq (.region [⟨(some 3), none, .box (.t 0) 2⟩,
    ⟨(some 6), none, .new (.agg [(.int .i64 0), (.int .i64 0)]) 2⟩,
    ⟨(some 7), none, .mov (.c (.int .i64 0))⟩])
  (.seq (.region [⟨(some 8), none, .new (.agg [(.int .i64 0), (.int .i64 0)]) 2⟩])
  (.seq (.region [⟨(some 13), none, .load (.t 3) (some 2)⟩,
    ⟨(some 14), none, .call 65 [(.t 13)]⟩,
    ⟨(some 12), none, .mov (.t 14)⟩,
    ⟨(some 15), none, .ext (.t 12) 0⟩,
    ⟨(some 16), none, .ext (.t 12) 1⟩,
    ⟨(some 9), none, .mov (.t 15)⟩,
    ⟨(some 10), none, .mov (.t 16)⟩])
  (.seq (.seq (.region [⟨(some 11), none, .mov (.c (.int .i64 0))⟩])
  (.block 0 (.loop (.seq (.seq (.region [⟨(some 17), none, .mov (.t 11)⟩,
    ⟨(some 18), none, .mov (.t 9)⟩,
    ⟨(some 19), none, .len (.t 18)⟩,
    ⟨(some 20), none, .bin .lss (.t 17) (.t 19)⟩])
  (.cond (.t 20) (.skip)
  (.exit 0)))
  (.seq (.block 1 (.region [⟨(some 23), none, .load (.t 8) (some 2)⟩,
    ⟨(some 24), none, .mov (.t 9)⟩,
    ⟨(some 25), none, .mov (.t 11)⟩,
    ⟨(some 26), none, .idx (.t 24) (.t 25) 1⟩,
    ⟨(some 27), none, .load (.t 26) none⟩,
    ⟨(some 28), none, .mov (.t 1)⟩,
    ⟨(some 29), none, .mov (.t 2)⟩,
    ⟨(some 30), none, .call 42 [(.t 27), (.t 28), (.t 29)]⟩,
    ⟨(some 31), none, .mov (.t 11)⟩,
    ⟨(some 32), none, .bin .eql (.t 31) (.c (.int .i64 0))⟩,
    ⟨(some 33), none, .call 66 [(.t 23), (.t 30), (.t 32)]⟩,
    ⟨none, none, .store (.t 8) (.t 33) 2⟩]))
  (.region [⟨(some 21), none, .mov (.t 11)⟩,
    ⟨(some 22), none, .bin .add (.t 21) (.c (.int .i64 1))⟩,
    ⟨(some 11), none, .mov (.t 22)⟩]))))))
  (.seq (.region [⟨(some 34), none, .load (.t 8) (some 2)⟩,
    ⟨(some 35), none, .mov (.t 10)⟩,
    ⟨none, none, .store (.t 6) (.t 34) 2⟩,
    ⟨(some 7), none, .mov (.t 35)⟩])
  (.ret)))))
def r63 : List Res := [.cell 6 (some 2), .t 7]
def a63 : AFn := ⟨3, c63, r63, .v⟩

/-- (bijou/reel.feet).splices -/
def c64 : ACode := .seq (.region [⟨(some 2), none, .mov (.c (.int .i64 0))⟩])
  (.seq (.region [⟨(some 3), none, .new (.int .i64 0) 1⟩,
    ⟨none, none, .store (.t 3) (.c (.int .i64 0)) 1⟩])
  (.seq (.seq (.region [⟨(some 4), none, .mov (.t 0)⟩,
    ⟨(some 5), none, .clo 87 [(.t 4)] []⟩])
  (.block 0 (.range (.t 5) [6] (.skip)
  (.block 1 (.region [⟨(some 7), none, .load (.t 3) none⟩,
    ⟨(some 8), none, .bin .add (.t 7) (.c (.int .i64 1))⟩,
    ⟨none, none, .store (.t 3) (.t 8) 1⟩])))))
  (.seq (.region [⟨(some 9), none, .load (.t 3) none⟩,
    ⟨(some 10), none, .bin .sub (.t 9) (.c (.int .i64 1))⟩,
    ⟨(some 11), none, .mnx true (.t 10) (.c (.int .i64 0))⟩,
    ⟨(some 2), none, .mov (.t 11)⟩])
  (.ret))))
def r64 : List Res := [.t 2]
def a64 : AFn := ⟨1, c64, r64, .v⟩

/-- bijou/bijouref01.known -/
def c65 : ACode := .seq (.region [⟨(some 1), none, .box (.t 0) 2⟩,
    ⟨(some 2), none, .mov (.c (.sl [] .tight))⟩,
    ⟨(some 3), none, .mov (.c (.int .i64 0))⟩])
  (.seq (.seq (.region [⟨(some 6), none, .load (.t 1) (some 2)⟩,
    ⟨(some 7), none, .call 22 [(.t 6)]⟩,
    ⟨(some 4), none, .mov (.t 7)⟩])
  (.seq (.region [⟨(some 8), none, .mov (.t 4)⟩,
    ⟨(some 9), none, .bin .neq (.t 8) (.c (.int .i64 0))⟩])
  (.cond (.t 9) (.seq (.region [⟨(some 10), none, .mov (.t 4)⟩,
    ⟨(some 2), none, .mov (.c (.sl [] .tight))⟩,
    ⟨(some 3), none, .mov (.t 10)⟩])
  (.ret))
  (.skip))))
  (.seq (.region [⟨(some 11), none, .load (.t 1) (some 2)⟩,
    ⟨(some 12), none, .call 53 [(.t 11)]⟩,
    ⟨(some 5), none, .mov (.t 12)⟩])
  (.seq (.seq (.region [⟨(some 13), none, .mov (.t 5)⟩,
    ⟨(some 14), none, .len (.t 13)⟩,
    ⟨(some 15), none, .bin .eql (.t 14) (.c (.int .i64 0))⟩])
  (.cond (.t 15) (.seq (.region [⟨(some 2), none, .mov (.c (.sl [] .tight))⟩,
    ⟨(some 3), none, .mov (.c (.int .i64 3))⟩])
  (.ret))
  (.skip)))
  (.seq (.region [⟨(some 16), none, .mov (.t 5)⟩,
    ⟨(some 2), none, .mov (.t 16)⟩,
    ⟨(some 3), none, .mov (.c (.int .i64 0))⟩])
  (.ret)))))
def r65 : List Res := [.t 2, .t 3]
def a65 : AFn := ⟨1, c65, r65, .v⟩

/-- bijou/bijouref01.wider -/
def c66 : ACode := .seq (.region [⟨(some 3), none, .box (.t 0) 2⟩,
    ⟨(some 6), none, .new (.agg [(.int .i64 0), (.int .i64 0)]) 2⟩])
  (.seq (.seq (.region [⟨(some 7), none, .mov (.t 2)⟩])
  (.cond (.t 7) (.seq (.region [⟨(some 8), none, .mov (.t 1)⟩,
    ⟨(some 9), none, .mov (.t 1)⟩,
    ⟨(some 10), none, .build [(.int .i64 0), (.int .i64 0)] [(0, 1, (.t 8)), (1, 1, (.t 9))]⟩,
    ⟨none, none, .store (.t 6) (.t 10) 2⟩])
  (.ret))
  (.skip)))
  (.seq (.region [⟨(some 11), none, .addr (.t 3) 0⟩,
    ⟨(some 12), none, .load (.t 11) none⟩,
    ⟨(some 13), none, .mov (.t 1)⟩,
    ⟨(some 14), none, .mnx false (.t 12) (.t 13)⟩,
    ⟨(some 15), none, .addr (.t 3) 1⟩,
    ⟨(some 16), none, .load (.t 15) none⟩,
    ⟨(some 17), none, .mov (.t 1)⟩,
    ⟨(some 18), none, .mnx true (.t 16) (.t 17)⟩,
    ⟨(some 19), none, .build [(.int .i64 0), (.int .i64 0)] [(0, 1, (.t 14)), (1, 1, (.t 18))]⟩,
    ⟨none, none, .store (.t 6) (.t 19) 2⟩])
  (.ret)))
def r66 : List Res := [.cell 6 (some 2)]
def a66 : AFn := ⟨3, c66, r66, .v⟩

/-- (bijou/reel.feet).longest -/
def c67 : ACode := .seq (.region [⟨(some 2), none, .mov (.c (.int .i64 0))⟩])
  (.seq (.region [⟨(some 3), none, .new (.int .i64 0) 1⟩,
    ⟨none, none, .store (.t 3) (.c (.int .i64 0)) 1⟩])
  (.seq (.seq (.region [⟨(some 5), none, .mov (.t 0)⟩,
    ⟨(some 6), none, .clo 87 [(.t 5)] []⟩])
  (.block 0 (.range (.t 6) [7] (.region [⟨(some 4), none, .mov (.t 7)⟩])
  (.block 1 (.region [⟨(some 8), none, .load (.t 3) none⟩,
    ⟨(some 9), none, .mov (.t 4)⟩,
    ⟨(some 10), none, .mnx true (.t 8) (.t 9)⟩,
    ⟨none, none, .store (.t 3) (.t 10) 1⟩])))))
  (.seq (.region [⟨(some 11), none, .load (.t 3) none⟩,
    ⟨(some 2), none, .mov (.t 11)⟩])
  (.ret))))
def r67 : List Res := [.t 2]
def a67 : AFn := ⟨1, c67, r67, .v⟩

/-- bijou/bijouref01.foot -/
def c68 : ACode := .seq (.region [⟨(some 4), none, .mov (.c (.int .i64 0))⟩])
  (.seq (.region [⟨(some 5), none, .mov (.c (.int .i64 0))⟩])
  (.seq (.seq (.region [⟨(some 6), none, .mov (.c (.int .i64 0))⟩])
  (.block 0 (.loop (.seq (.seq (.region [⟨(some 7), none, .mov (.t 6)⟩,
    ⟨(some 8), none, .mov (.t 0)⟩,
    ⟨(some 9), none, .len (.t 8)⟩,
    ⟨(some 10), none, .bin .lss (.t 7) (.t 9)⟩])
  (.cond (.t 10) (.skip)
  (.exit 0)))
  (.seq (.block 1 (.region [⟨(some 13), none, .mov (.t 5)⟩,
    ⟨(some 14), none, .mov (.t 0)⟩,
    ⟨(some 15), none, .mov (.t 6)⟩,
    ⟨(some 16), none, .idx (.t 14) (.t 15) 1⟩,
    ⟨(some 17), none, .load (.t 16) none⟩,
    ⟨(some 18), none, .mov (.t 1)⟩,
    ⟨(some 19), none, .mov (.t 1)⟩,
    ⟨(some 20), none, .call 42 [(.t 17), (.t 18), (.t 19)]⟩,
    ⟨(some 21), none, .bin .add (.t 13) (.t 20)⟩,
    ⟨(some 5), none, .mov (.t 21)⟩]))
  (.region [⟨(some 11), none, .mov (.t 6)⟩,
    ⟨(some 12), none, .bin .add (.t 11) (.c (.int .i64 1))⟩,
    ⟨(some 6), none, .mov (.t 12)⟩]))))))
  (.seq (.seq (.region [⟨(some 22), none, .mov (.t 5)⟩,
    ⟨(some 23), none, .mov (.t 0)⟩,
    ⟨(some 24), none, .len (.t 23)⟩,
    ⟨(some 25), none, .bin .eql (.t 22) (.t 24)⟩])
  (.cond (.t 25) (.seq (.region [⟨(some 4), none, .mov (.c (.int .i64 1))⟩])
  (.ret))
  (.skip)))
  (.seq (.seq (.region [⟨(some 26), none, .mov (.t 5)⟩,
    ⟨(some 27), none, .bin .eql (.t 26) (.c (.int .i64 0))⟩])
  (.cond (.t 27) (.seq (.region [⟨(some 4), none, .mov (.c (.int .i64 2))⟩])
  (.ret))
  (.skip)))
  (.seq (.region [⟨(some 4), none, .mov (.c (.int .i64 3))⟩])
  (.ret))))))
def r68 : List Res := [.t 4]
def a68 : AFn := ⟨2, c68, r68, .v⟩

/-- bijou/reel.ordered -/
def c69 : ACode := .seq (.region [⟨(some 6), none, .mov (.c (.bool false))⟩])
  (.seq (.region [⟨(some 7), none, .mov (.t 0)⟩,
    ⟨(some 8), none, .bin .leq (.c (.int .i64 0)) (.t 7)⟩,
    ⟨(some 9), none, .mov (.t 8)⟩,
    ⟨(some 10), some (9, true), .mov (.t 0)⟩,
    ⟨(some 11), some (9, true), .mov (.t 1)⟩,
    ⟨(some 12), some (9, true), .bin .leq (.t 10) (.t 11)⟩,
    ⟨(some 13), none, .pick (.t 9) (.t 12) (.c (.bool false))⟩,
    ⟨(some 14), none, .mov (.t 13)⟩,
    ⟨(some 15), some (14, true), .mov (.t 1)⟩,
    ⟨(some 16), some (14, true), .mov (.t 2)⟩,
    ⟨(some 17), some (14, true), .bin .lss (.t 15) (.t 16)⟩,
    ⟨(some 18), none, .pick (.t 14) (.t 17) (.c (.bool false))⟩,
    ⟨(some 6), none, .mov (.t 18)⟩])
  (.ret))
def r69 : List Res := [.t 6]
def a69 : AFn := ⟨3, c69, r69, .v⟩

/-- bijou/reel.between -/
def c70 : ACode := .seq (.region [⟨(some 4), none, .mov (.c (.int .u16 0))⟩])
  (.seq (.region [⟨(some 5), none, .mov (.t 1)⟩,
    ⟨(some 6), none, .bin .add (.t 5) (.c (.int .i64 1))⟩,
    ⟨(some 7), none, .bin .shl (.c (.int .u16 1)) (.t 6)⟩,
    ⟨(some 8), none, .mov (.t 0)⟩,
    ⟨(some 9), none, .bin .shl (.c (.int .u16 1)) (.t 8)⟩,
    ⟨(some 10), none, .bin .sub (.t 7) (.t 9)⟩,
    ⟨(some 4), none, .mov (.t 10)⟩])
  (.ret))
def r70 : List Res := [.t 4]
def a70 : AFn := ⟨2, c70, r70, .v⟩

/-- bijou/reel.Whole$1 -/
def c71 : ACode := .seq (.region [⟨(some 3), none, .mov (.c (.int .i64 0))⟩])
  (.seq (.region [⟨(some 4), none, .mov (.t 0)⟩,
    ⟨(some 5), none, .load (.t 1) none⟩,
    ⟨(some 6), none, .bin .and (.t 4) (.t 5)⟩,
    ⟨(some 7), none, .call 62 [(.t 6)]⟩,
    ⟨(some 3), none, .mov (.t 7)⟩])
  (.ret))
def r71 : List Res := [.t 3]
def a71 : AFn := ⟨2, c71, r71, .v⟩

/-- (bijou/reel.feet).list -/
def c72 : ACode := .seq (.region [⟨(some 4), none, .mov (.c (.sl [] .tight))⟩])
  (.seq (.region [⟨(some 5), none, .mov (.c (.sl [] .tight))⟩])
  (.seq (.seq (.region [⟨(some 7), none, .mov (.t 1)⟩,
    ⟨(some 8), none, .mov (.c (.int .i64 0))⟩])
  (.block 0 (.loop (.seq (.region [⟨(some 9), none, .bin .lss (.t 8) (.t 7)⟩])
  (.seq (.cond (.t 9) (.skip)
  (.exit 0))
  (.seq (.block 1 (.seq (.region [⟨(some 10), none, .mov (.t 8)⟩,
    ⟨(some 6), none, .mov (.t 10)⟩])
  (.seq (.region [⟨(some 11), none, .mov (.t 0)⟩,
    ⟨(some 12), none, .mov (.t 6)⟩,
    ⟨(some 13), none, .bin .shr (.t 11) (.t 12)⟩,
    ⟨(some 14), none, .bin .and (.t 13) (.c (.int .u16 1))⟩,
    ⟨(some 15), none, .bin .eql (.t 14) (.c (.int .u16 1))⟩])
  (.cond (.t 15) (.region [⟨(some 16), none, .mov (.t 5)⟩,
    ⟨(some 17), none, .mov (.t 6)⟩,
    ⟨(some 18), none, .lit false 3 1 [(.t 17)]⟩,
    ⟨(some 19), none, .app false (.t 16) (.t 18) 3 1 8⟩,
    ⟨(some 5), none, .mov (.t 19)⟩])
  (.skip)))))
  (.region [⟨(some 20), none, .bin .add (.t 8) (.c (.int .i64 1))⟩,
    ⟨(some 8), none, .mov (.t 20)⟩])))))))
  (.seq (.region [⟨(some 21), none, .mov (.t 5)⟩,
    ⟨(some 4), none, .mov (.t 21)⟩])
  (.ret))))
def r72 : List Res := [.t 4]
def a72 : AFn := ⟨2, c72, r72, .v⟩

/-- bijou/reel.samePrints -/
def c73 : ACode := .seq (.region [⟨(some 1), none, .box (.t 0) 1⟩,
    ⟨(some 2), none, .mov (.c (.bool false))⟩])
  (.seq (.seq (.region [⟨(some 4), none, .load (.t 1) none⟩,
    ⟨(some 5), none, .len (.t 4)⟩,
    ⟨(some 6), none, .bin .lss (.t 5) (.c (.int .i64 1))⟩,
    ⟨(some 7), none, .mov (.t 6)⟩,
    ⟨(some 8), some (7, false), .load (.t 1) none⟩,
    ⟨(some 9), some (7, false), .len (.t 8)⟩,
    ⟨(some 10), some (7, false), .bin .gtr (.t 9) (.c (.int .i64 4))⟩,
    ⟨(some 11), none, .pick (.t 7) (.c (.bool true)) (.t 10)⟩])
  (.cond (.t 11) (.seq (.region [⟨(some 2), none, .mov (.c (.bool false))⟩])
  (.ret))
  (.skip)))
  (.seq (.region [⟨(some 12), none, .clo 88 [] [(.t 1)]⟩,
    ⟨(some 3), none, .mov (.t 12)⟩])
  (.seq (.region [⟨(some 13), none, .load (.t 1) none⟩,
    ⟨(some 14), none, .mov (.t 3)⟩,
    ⟨(some 15), none, .call 89 [(.t 13), (.t 14)]⟩,
    ⟨(some 16), none, .not (.t 15)⟩,
    ⟨(some 2), none, .mov (.t 16)⟩])
  (.ret))))
def r73 : List Res := [.t 2]
def a73 : AFn := ⟨1, c73, r73, .v⟩

/-- bijou/reel.surelyThere -/
def c74 : ACode := .seq (.region [⟨(some 1), none, .box (.t 0) 2⟩,
    ⟨(some 2), none, .mov (.c (.int .u16 0))⟩,
    ⟨(some 3), none, .mov (.c (.bool false))⟩])
  (.seq (.region [⟨(some 8), none, .addr (.t 1) 0⟩,
    ⟨(some 9), none, .load (.t 8) none⟩,
    ⟨(some 10), none, .call 75 [(.t 9)]⟩,
    ⟨(some 11), none, .load (.t 1) (some 2)⟩,
    ⟨(some 12), none, .call 52 [(.t 11)]⟩,
    ⟨(some 4), none, .mov (.t 10)⟩,
    ⟨(some 5), none, .mov (.t 12)⟩])
  (.seq (.seq (.region [⟨(some 13), none, .mov (.t 5)⟩,
    ⟨(some 14), none, .len (.t 13)⟩,
    ⟨(some 15), none, .mov (.c (.int .i64 0))⟩])
  (.block 0 (.loop (.seq (.region [⟨(some 16), none, .bin .lss (.t 15) (.t 14)⟩])
  (.seq (.cond (.t 16) (.skip)
  (.exit 0))
  (.seq (.block 1 (.seq (.region [⟨(some 17), none, .idx (.t 13) (.t 15) 1⟩,
    ⟨(some 18), none, .load (.t 17) none⟩,
    ⟨(some 7), none, .mov (.t 18)⟩])
  (.region [⟨(some 19), none, .mov (.t 4)⟩,
    ⟨(some 20), none, .mov (.t 7)⟩,
    ⟨(some 21), none, .bin .and (.t 19) (.t 20)⟩,
    ⟨(some 4), none, .mov (.t 21)⟩])))
  (.region [⟨(some 22), none, .bin .add (.t 15) (.c (.int .i64 1))⟩,
    ⟨(some 15), none, .mov (.t 22)⟩])))))))
  (.seq (.region [⟨(some 23), none, .mov (.t 4)⟩,
    ⟨(some 24), none, .mov (.t 5)⟩,
    ⟨(some 25), none, .len (.t 24)⟩,
    ⟨(some 26), none, .bin .gtr (.t 25) (.c (.int .i64 0))⟩,
    ⟨(some 2), none, .mov (.t 23)⟩,
    ⟨(some 3), none, .mov (.t 26)⟩])
  (.ret))))
def r74 : List Res := [.t 2, .t 3]
def a74 : AFn := ⟨1, c74, r74, .v⟩

/-- bijou/reel.allFeet -/
def c75 : ACode := .seq (.region [⟨(some 2), none, .mov (.c (.int .u16 0))⟩])
  (.seq (.region [⟨(some 3), none, .mov (.t 0)⟩,
    ⟨(some 4), none, .bin .sub (.t 3) (.c (.int .i64 1))⟩,
    ⟨(some 5), none, .call 70 [(.c (.int .i64 0)), (.t 4)]⟩,
    ⟨(some 2), none, .mov (.t 5)⟩])
  (.ret))
def r75 : List Res := [.t 2]
def a75 : AFn := ⟨1, c75, r75, .v⟩

/-- bijou/bijouref01.Holds -/
def c76 : ACode := .seq (.region [⟨(some 5), none, .box (.t 2) 5⟩,
    ⟨(some 6), none, .mov (.c (.bool false))⟩])
  (.seq (.seq (.region [⟨(some 7), none, .addr (.t 5) 0⟩,
    ⟨(some 8), none, .load (.t 7) none⟩])
  (.block 0 (.seq (.region [⟨(some 10), none, .bin .eql (.t 8) (.c (.int .i64 2))⟩,
    ⟨(some 9), none, .mov (.t 10)⟩])
  (.cond (.t 9) (.seq (.region [⟨(some 11), none, .mov (.t 0)⟩,
    ⟨(some 12), none, .addr (.t 5) 1⟩,
    ⟨(some 13), none, .load (.t 12) none⟩,
    ⟨(some 14), none, .addr (.t 5) 2⟩,
    ⟨(some 15), none, .load (.t 14) none⟩,
    ⟨(some 16), none, .call 42 [(.t 11), (.t 13), (.t 15)]⟩,
    ⟨(some 17), none, .addr (.t 5) 2⟩,
    ⟨(some 18), none, .load (.t 17) none⟩,
    ⟨(some 19), none, .addr (.t 5) 1⟩,
    ⟨(some 20), none, .load (.t 19) none⟩,
    ⟨(some 21), none, .bin .sub (.t 18) (.t 20)⟩,
    ⟨(some 22), none, .bin .add (.t 21) (.c (.int .i64 1))⟩,
    ⟨(some 23), none, .bin .eql (.t 16) (.t 22)⟩,
    ⟨(some 6), none, .mov (.t 23)⟩])
  (.ret))
  (.seq (.region [⟨(some 25), none, .bin .eql (.t 8) (.c (.int .i64 3))⟩,
    ⟨(some 24), none, .mov (.t 25)⟩])
  (.cond (.t 24) (.seq (.region [⟨(some 26), none, .mov (.t 0)⟩,
    ⟨(some 27), none, .addr (.t 5) 1⟩,
    ⟨(some 28), none, .load (.t 27) none⟩,
    ⟨(some 29), none, .addr (.t 5) 2⟩,
    ⟨(some 30), none, .load (.t 29) none⟩,
    ⟨(some 31), none, .call 42 [(.t 26), (.t 28), (.t 30)]⟩,
    ⟨(some 32), none, .addr (.t 5) 2⟩,
    ⟨(some 33), none, .load (.t 32) none⟩,
    ⟨(some 34), none, .addr (.t 5) 1⟩,
    ⟨(some 35), none, .load (.t 34) none⟩,
    ⟨(some 36), none, .bin .sub (.t 33) (.t 35)⟩,
    ⟨(some 37), none, .bin .add (.t 36) (.c (.int .i64 1))⟩,
    ⟨(some 38), none, .bin .lss (.t 31) (.t 37)⟩,
    ⟨(some 6), none, .mov (.t 38)⟩])
  (.ret))
  (.seq (.region [⟨(some 40), none, .bin .eql (.t 8) (.c (.int .i64 4))⟩,
    ⟨(some 39), none, .mov (.t 40)⟩])
  (.cond (.t 39) (.seq (.region [⟨(some 41), none, .mov (.t 0)⟩,
    ⟨(some 42), none, .mov (.t 1)⟩,
    ⟨(some 43), none, .bin .sub (.t 42) (.c (.int .i64 1))⟩,
    ⟨(some 44), none, .call 42 [(.t 41), (.c (.int .i64 0)), (.t 43)]⟩,
    ⟨(some 45), none, .addr (.t 5) 3⟩,
    ⟨(some 46), none, .addr (.t 45) 0⟩,
    ⟨(some 47), none, .load (.t 46) none⟩,
    ⟨(some 48), none, .addr (.t 5) 3⟩,
    ⟨(some 49), none, .addr (.t 48) 1⟩,
    ⟨(some 50), none, .load (.t 49) none⟩,
    ⟨(some 51), none, .call 59 [(.t 44), (.t 47), (.t 50)]⟩,
    ⟨(some 6), none, .mov (.t 51)⟩])
  (.ret))
  (.skip)))))))))
  (.seq (.region [⟨(some 52), none, .mov (.t 0)⟩,
    ⟨(some 53), none, .mov (.t 1)⟩,
    ⟨(some 54), none, .call 44 [(.t 52), (.t 53)]⟩,
    ⟨(some 55), none, .addr (.t 5) 3⟩,
    ⟨(some 56), none, .addr (.t 55) 0⟩,
    ⟨(some 57), none, .load (.t 56) none⟩,
    ⟨(some 58), none, .addr (.t 5) 3⟩,
    ⟨(some 59), none, .addr (.t 58) 1⟩,
    ⟨(some 60), none, .load (.t 59) none⟩,
    ⟨(some 61), none, .call 59 [(.t 54), (.t 57), (.t 60)]⟩,
    ⟨(some 6), none, .mov (.t 61)⟩])
  (.ret)))
def r76 : List Res := [.t 6]
def a76 : AFn := ⟨3, c76, r76, .v⟩

/-- bijou/bijouref01.there -/
def c77 : ACode := .seq (.region [⟨(some 4), none, .mov (.c (.bool false))⟩])
  (.seq (.region [⟨(some 5), none, .mov (.t 0)⟩,
    ⟨(some 6), none, .mov (.t 1)⟩,
    ⟨(some 7), none, .conv .u64 (.t 6)⟩,
    ⟨(some 8), none, .bin .shr (.t 5) (.t 7)⟩,
    ⟨(some 9), none, .bin .and (.t 8) (.c (.int .i64 1))⟩,
    ⟨(some 10), none, .bin .eql (.t 9) (.c (.int .i64 1))⟩,
    ⟨(some 4), none, .mov (.t 10)⟩])
  (.ret))
def r77 : List Res := [.t 4]
def a77 : AFn := ⟨2, c77, r77, .v⟩

/-- bijou/reel.claims -/
def c78 : ACode := .seq (.region [⟨(some 1), none, .box (.t 0) 2⟩,
    ⟨(some 2), none, .mov (.c (.sl [] .tight))⟩])
  (.seq (.region [⟨(some 3), none, .mov (.c (.sl [] .tight))⟩])
  (.seq (.seq (.region [⟨(some 6), none, .addr (.t 1) 1⟩,
    ⟨(some 7), none, .load (.t 6) none⟩,
    ⟨(some 8), none, .len (.t 7)⟩,
    ⟨(some 9), none, .mov (.c (.int .i64 0))⟩])
  (.block 0 (.loop (.seq (.region [⟨(some 10), none, .bin .lss (.t 9) (.t 8)⟩])
  (.seq (.cond (.t 10) (.skip)
  (.exit 0))
  (.seq (.block 1 (.seq (.region [⟨(some 11), none, .idx (.t 7) (.t 9) 5⟩,
    ⟨(some 12), none, .load (.t 11) (some 5)⟩,
    ⟨(some 5), none, .new (.agg [(.int .i64 0), (.int .i64 0), (.int .i64 0), (.int .i64 0), (.int .i64 0)]) 5⟩,
    ⟨none, none, .store (.t 5) (.t 12) 5⟩])
  (.seq (.region [⟨(some 13), none, .addr (.t 5) 0⟩,
    ⟨(some 14), none, .load (.t 13) none⟩,
    ⟨(some 15), none, .bin .neq (.t 14) (.c (.int .i64 1))⟩])
  (.cond (.t 15) (.region [⟨(some 16), none, .mov (.t 3)⟩,
    ⟨(some 17), none, .load (.t 5) (some 5)⟩,
    ⟨(some 18), none, .call 90 [(.t 17)]⟩,
    ⟨(some 19), none, .lit false 114 1 [(.t 18)]⟩,
    ⟨(some 20), none, .app false (.t 16) (.t 19) 114 1 8⟩,
    ⟨(some 3), none, .mov (.t 20)⟩])
  (.skip)))))
  (.region [⟨(some 21), none, .bin .add (.t 9) (.c (.int .i64 1))⟩,
    ⟨(some 9), none, .mov (.t 21)⟩])))))))
  (.seq (.region [⟨(some 22), none, .mov (.t 3)⟩,
    ⟨(some 2), none, .mov (.t 22)⟩])
  (.ret))))
def r78 : List Res := [.t 2]
def a78 : AFn := ⟨1, c78, r78, .v⟩

/-- bijou/reel.taken -/
def c79 : ACode := .seq (.region [⟨(some 2), none, .box (.t 0) 2⟩,
    ⟨(some 4), none, .mov (.c (.sl [] .tight))⟩])
  (.seq (.region [⟨(some 11), none, .mov (.t 1)⟩,
    ⟨(some 12), none, .bin .add (.t 11) (.c (.int .i64 1))⟩,
    ⟨(some 13), none, .make (.sl [] .tight) 104 1 24 (.t 12) (.t 12)⟩,
    ⟨(some 5), none, .new (.sl [] .tight) 1⟩,
    ⟨none, none, .store (.t 5) (.t 13) 1⟩])
  (.seq (.seq (.region [⟨(some 14), none, .load (.t 5) none⟩,
    ⟨(some 15), none, .len (.t 14)⟩,
    ⟨(some 16), none, .mov (.c (.int .i64 0))⟩])
  (.block 0 (.loop (.seq (.region [⟨(some 17), none, .bin .lss (.t 16) (.t 15)⟩])
  (.seq (.cond (.t 17) (.skip)
  (.exit 0))
  (.seq (.block 1 (.seq (.region [⟨(some 18), none, .mov (.t 16)⟩,
    ⟨(some 6), none, .mov (.t 18)⟩])
  (.region [⟨(some 19), none, .load (.t 5) none⟩,
    ⟨(some 20), none, .mov (.t 6)⟩,
    ⟨(some 21), none, .addr (.t 2) 0⟩,
    ⟨(some 22), none, .load (.t 21) none⟩,
    ⟨(some 23), none, .call 91 [(.t 22)]⟩,
    ⟨(some 24), none, .idx (.t 19) (.t 20) 1⟩,
    ⟨none, none, .store (.t 24) (.t 23) 1⟩])))
  (.region [⟨(some 25), none, .bin .add (.t 16) (.c (.int .i64 1))⟩,
    ⟨(some 16), none, .mov (.t 25)⟩])))))))
  (.seq (.region [⟨(some 26), none, .load (.t 5) none⟩,
    ⟨(some 27), none, .idx (.t 26) (.c (.int .i64 0)) 1⟩,
    ⟨(some 28), none, .load (.t 27) none⟩,
    ⟨(some 29), none, .idx (.t 28) (.c (.int .i64 0)) 1⟩,
    ⟨none, none, .store (.t 29) (.c (.int .u64 1)) 1⟩])
  (.seq (.seq (.region [⟨(some 30), none, .load (.t 2) (some 2)⟩,
    ⟨(some 31), none, .call 82 [(.t 30)]⟩,
    ⟨(some 32), none, .len (.t 31)⟩,
    ⟨(some 33), none, .mov (.c (.int .i64 0))⟩])
  (.block 2 (.loop (.seq (.region [⟨(some 34), none, .bin .lss (.t 33) (.t 32)⟩])
  (.seq (.cond (.t 34) (.skip)
  (.exit 2))
  (.seq (.block 3 (.seq (.region [⟨(some 35), none, .idx (.t 31) (.t 33) 5⟩,
    ⟨(some 36), none, .load (.t 35) (some 5)⟩,
    ⟨(some 8), none, .new (.agg [(.int .i64 0), (.int .i64 0), (.int .i64 0), (.int .i64 0), (.int .i64 0)]) 5⟩,
    ⟨none, none, .store (.t 8) (.t 36) 5⟩])
  (.seq (.region [⟨(some 37), none, .load (.t 5) none⟩,
    ⟨(some 38), none, .call 92 [(.t 37)]⟩])
  (.block 4 (.range (.t 38) [39, 40] (.region [⟨(some 9), none, .mov (.t 39)⟩])
  (.block 5 (.seq (.region [⟨(some 41), none, .load (.t 5) none⟩,
    ⟨(some 42), none, .mov (.t 9)⟩,
    ⟨(some 43), none, .idx (.t 41) (.t 42) 1⟩,
    ⟨(some 44), none, .load (.t 43) none⟩,
    ⟨(some 45), none, .load (.t 8) (some 5)⟩,
    ⟨(some 46), none, .call 93 [(.t 44), (.t 45)]⟩,
    ⟨(some 10), none, .mov (.t 46)⟩])
  (.seq (.seq (.region [⟨(some 47), none, .mov (.t 9)⟩,
    ⟨(some 48), none, .bin .gtr (.t 47) (.c (.int .i64 0))⟩])
  (.cond (.t 48) (.region [⟨(some 49), none, .mov (.t 10)⟩,
    ⟨(some 50), none, .load (.t 5) none⟩,
    ⟨(some 51), none, .mov (.t 9)⟩,
    ⟨(some 52), none, .bin .sub (.t 51) (.c (.int .i64 1))⟩,
    ⟨(some 53), none, .idx (.t 50) (.t 52) 1⟩,
    ⟨(some 54), none, .load (.t 53) none⟩,
    ⟨(some 55), none, .call 94 [(.t 49), (.t 54)]⟩])
  (.skip)))
  (.region [⟨(some 56), none, .load (.t 5) none⟩,
    ⟨(some 57), none, .mov (.t 9)⟩,
    ⟨(some 58), none, .mov (.t 10)⟩,
    ⟨(some 59), none, .idx (.t 56) (.t 57) 1⟩,
    ⟨none, none, .store (.t 59) (.t 58) 1⟩])))))))))
  (.region [⟨(some 60), none, .bin .add (.t 33) (.c (.int .i64 1))⟩,
    ⟨(some 33), none, .mov (.t 60)⟩])))))))
  (.seq (.region [⟨(some 61), none, .load (.t 5) none⟩,
    ⟨(some 4), none, .mov (.t 61)⟩])
  (.ret))))))
def r79 : List Res := [.t 4]
def a79 : AFn := ⟨2, c79, r79, .v⟩

/-- (bijou/reel.family).sets -/
def c80 : ACode := .seq (.region [⟨(some 6), none, .mov (.t 0)⟩,
    ⟨(some 7), none, .len (.t 6)⟩,
    ⟨(some 8), none, .mov (.c (.int .i64 0))⟩])
  (.block 0 (.loop (.seq (.region [⟨(some 9), none, .bin .lss (.t 8) (.t 7)⟩])
  (.seq (.cond (.t 9) (.skip)
  (.exit 0))
  (.seq (.block 1 (.seq (.region [⟨(some 10), none, .mov (.t 8)⟩,
    ⟨(some 11), none, .idx (.t 6) (.t 8) 1⟩,
    ⟨(some 12), none, .load (.t 11) none⟩,
    ⟨(some 4), none, .mov (.t 10)⟩,
    ⟨(some 5), none, .mov (.t 12)⟩])
  (.block 2 (.loop (.seq (.seq (.region [⟨(some 13), none, .mov (.t 5)⟩,
    ⟨(some 14), none, .bin .neq (.t 13) (.c (.int .u64 0))⟩])
  (.cond (.t 14) (.skip)
  (.exit 2)))
  (.block 3 (.seq (.seq (.region [⟨(some 15), none, .mov (.t 1)⟩,
    ⟨(some 16), none, .mov (.t 4)⟩,
    ⟨(some 17), none, .bin .mul (.t 16) (.c (.int .i64 64))⟩,
    ⟨(some 18), none, .mov (.t 5)⟩,
    ⟨(some 19), none, .call 95 [(.t 18)]⟩,
    ⟨(some 20), none, .bin .add (.t 17) (.t 19)⟩,
    ⟨(some 21), none, .conv .u16 (.t 20)⟩,
    ⟨(some 22), none, .callv (.t 15) [(.t 21)]⟩,
    ⟨(some 23), none, .not (.t 22)⟩])
  (.cond (.t 23) (.ret)
  (.skip)))
  (.region [⟨(some 24), none, .mov (.t 5)⟩,
    ⟨(some 25), none, .mov (.t 5)⟩,
    ⟨(some 26), none, .bin .sub (.t 25) (.c (.int .u64 1))⟩,
    ⟨(some 27), none, .bin .and (.t 24) (.t 26)⟩,
    ⟨(some 5), none, .mov (.t 27)⟩]))))))))
  (.region [⟨(some 28), none, .bin .add (.t 8) (.c (.int .i64 1))⟩,
    ⟨(some 8), none, .mov (.t 28)⟩]))))))
def r80 : List Res := []
def a80 : AFn := ⟨2, c80, r80, .r⟩

/-- bijou/reel.untrue -/
def c81 : ACode := .seq (.region [⟨(some 4), none, .mov (.c (.int .i64 0))⟩])
  (.seq (.region [⟨(some 5), none, .mov (.c (.int .i64 0))⟩])
  (.seq (.seq (.region [⟨(some 8), none, .mov (.t 0)⟩,
    ⟨(some 9), none, .len (.t 8)⟩,
    ⟨(some 10), none, .mov (.c (.int .i64 0))⟩])
  (.block 0 (.loop (.seq (.region [⟨(some 11), none, .bin .lss (.t 10) (.t 9)⟩])
  (.seq (.cond (.t 11) (.skip)
  (.exit 0))
  (.seq (.block 1 (.seq (.region [⟨(some 12), none, .idx (.t 8) (.t 10) 1⟩,
    ⟨(some 13), none, .load (.t 12) none⟩,
    ⟨(some 7), none, .mov (.t 13)⟩])
  (.seq (.region [⟨(some 14), none, .mov (.t 7)⟩,
    ⟨(some 15), none, .mov (.t 1)⟩,
    ⟨(some 16), none, .callv (.t 14) [(.t 15)]⟩,
    ⟨(some 17), none, .not (.t 16)⟩])
  (.cond (.t 17) (.region [⟨(some 18), none, .mov (.t 5)⟩,
    ⟨(some 19), none, .bin .add (.t 18) (.c (.int .i64 1))⟩,
    ⟨(some 5), none, .mov (.t 19)⟩])
  (.skip)))))
  (.region [⟨(some 20), none, .bin .add (.t 10) (.c (.int .i64 1))⟩,
    ⟨(some 10), none, .mov (.t 20)⟩])))))))
  (.seq (.region [⟨(some 21), none, .mov (.t 5)⟩,
    ⟨(some 4), none, .mov (.t 21)⟩])
  (.ret))))
def r81 : List Res := [.t 4]
def a81 : AFn := ⟨2, c81, r81, .v⟩

/-- bijou/reel.tears -/
def c82 : ACode := .seq (.region [⟨(some 1), none, .box (.t 0) 2⟩,
    ⟨(some 2), none, .mov (.c (.sl [] .tight))⟩])
  (.seq (.region [⟨(some 3), none, .mov (.c (.sl [] .tight))⟩])
  (.seq (.seq (.region [⟨(some 6), none, .addr (.t 1) 1⟩,
    ⟨(some 7), none, .load (.t 6) none⟩,
    ⟨(some 8), none, .len (.t 7)⟩,
    ⟨(some 9), none, .mov (.c (.int .i64 0))⟩])
  (.block 0 (.loop (.seq (.region [⟨(some 10), none, .bin .lss (.t 9) (.t 8)⟩])
  (.seq (.cond (.t 10) (.skip)
  (.exit 0))
  (.seq (.block 1 (.seq (.region [⟨(some 11), none, .idx (.t 7) (.t 9) 5⟩,
    ⟨(some 12), none, .load (.t 11) (some 5)⟩,
    ⟨(some 5), none, .new (.agg [(.int .i64 0), (.int .i64 0), (.int .i64 0), (.int .i64 0), (.int .i64 0)]) 5⟩,
    ⟨none, none, .store (.t 5) (.t 12) 5⟩])
  (.seq (.region [⟨(some 13), none, .addr (.t 5) 0⟩,
    ⟨(some 14), none, .load (.t 13) none⟩,
    ⟨(some 15), none, .bin .eql (.t 14) (.c (.int .i64 1))⟩])
  (.cond (.t 15) (.region [⟨(some 16), none, .mov (.t 3)⟩,
    ⟨(some 17), none, .load (.t 5) (some 5)⟩,
    ⟨(some 18), none, .lit false 37 5 [(.t 17)]⟩,
    ⟨(some 19), none, .app false (.t 16) (.t 18) 37 5 40⟩,
    ⟨(some 3), none, .mov (.t 19)⟩])
  (.skip)))))
  (.region [⟨(some 20), none, .bin .add (.t 9) (.c (.int .i64 1))⟩,
    ⟨(some 9), none, .mov (.t 20)⟩])))))))
  (.seq (.region [⟨(some 21), none, .mov (.t 3)⟩,
    ⟨(some 2), none, .mov (.t 21)⟩])
  (.ret))))
def r82 : List Res := [.t 2]
def a82 : AFn := ⟨1, c82, r82, .v⟩

/-- bijou/bijouref01.block -/
def c83 : ACode := .seq (.region [⟨(some 4), none, .mov (.c (.int .i64 0))⟩])
  (.seq (.region [⟨(some 5), none, .mov (.c (.int .i64 0))⟩])
  (.seq (.seq (.region [⟨(some 7), none, .mov (.t 0)⟩,
    ⟨(some 6), none, .mov (.t 7)⟩])
  (.block 0 (.loop (.seq (.seq (.region [⟨(some 8), none, .mov (.t 6)⟩,
    ⟨(some 9), none, .mov (.t 1)⟩,
    ⟨(some 10), none, .bin .leq (.t 8) (.t 9)⟩])
  (.cond (.t 10) (.skip)
  (.exit 0)))
  (.seq (.block 1 (.region [⟨(some 13), none, .mov (.t 5)⟩,
    ⟨(some 14), none, .mov (.t 6)⟩,
    ⟨(some 15), none, .conv .u64 (.t 14)⟩,
    ⟨(some 16), none, .bin .shl (.c (.int .i64 1)) (.t 15)⟩,
    ⟨(some 17), none, .bin .or (.t 13) (.t 16)⟩,
    ⟨(some 5), none, .mov (.t 17)⟩]))
  (.region [⟨(some 11), none, .mov (.t 6)⟩,
    ⟨(some 12), none, .bin .add (.t 11) (.c (.int .i64 1))⟩,
    ⟨(some 6), none, .mov (.t 12)⟩]))))))
  (.seq (.region [⟨(some 18), none, .mov (.t 5)⟩,
    ⟨(some 4), none, .mov (.t 18)⟩])
  (.ret))))
def r83 : List Res := [.t 4]
def a83 : AFn := ⟨2, c83, r83, .v⟩

/-- bijou/reel.counts -/
def c84 : ACode := .seq (.region [⟨(some 1), none, .box (.t 0) 2⟩,
    ⟨(some 2), none, .mov (.c (.bool false))⟩])
  (.seq (.region [⟨(some 3), none, .addr (.t 1) 0⟩,
    ⟨(some 4), none, .load (.t 3) none⟩,
    ⟨(some 5), none, .bin .leq (.c (.int .i64 0)) (.t 4)⟩,
    ⟨(some 6), none, .mov (.t 5)⟩,
    ⟨(some 7), some (6, true), .addr (.t 1) 0⟩,
    ⟨(some 8), some (6, true), .load (.t 7) none⟩,
    ⟨(some 9), some (6, true), .addr (.t 1) 1⟩,
    ⟨(some 10), some (6, true), .load (.t 9) none⟩,
    ⟨(some 11), some (6, true), .bin .leq (.t 8) (.t 10)⟩,
    ⟨(some 12), none, .pick (.t 6) (.t 11) (.c (.bool false))⟩,
    ⟨(some 13), none, .mov (.t 12)⟩,
    ⟨(some 14), some (13, true), .addr (.t 1) 1⟩,
    ⟨(some 15), some (13, true), .load (.t 14) none⟩,
    ⟨(some 16), some (13, true), .bin .leq (.t 15) (.c (.int .i64 16))⟩,
    ⟨(some 17), none, .pick (.t 13) (.t 16) (.c (.bool false))⟩,
    ⟨(some 2), none, .mov (.t 17)⟩])
  (.ret))
def r84 : List Res := [.t 2]
def a84 : AFn := ⟨1, c84, r84, .v⟩

/-- slices.IndexFunc[[]bijou/api.Mark,bijou/api.Mark] -/
def c85 : ACode := .seq (.region [⟨(some 4), none, .mov (.c (.int .i64 0))⟩])
  (.seq (.seq (.region [⟨(some 6), none, .mov (.t 0)⟩,
    ⟨(some 7), none, .len (.t 6)⟩,
    ⟨(some 8), none, .mov (.c (.int .i64 0))⟩])
  (.block 0 (.loop (.seq (.region [⟨(some 9), none, .bin .lss (.t 8) (.t 7)⟩])
  (.seq (.cond (.t 9) (.skip)
  (.exit 0))
  (.seq (.block 1 (.seq (.region [⟨(some 10), none, .mov (.t 8)⟩,
    ⟨(some 5), none, .mov (.t 10)⟩])
  (.seq (.region [⟨(some 11), none, .mov (.t 1)⟩,
    ⟨(some 12), none, .mov (.t 0)⟩,
    ⟨(some 13), none, .mov (.t 5)⟩,
    ⟨(some 14), none, .idx (.t 12) (.t 13) 5⟩,
    ⟨(some 15), none, .load (.t 14) (some 5)⟩,
    ⟨(some 16), none, .callv (.t 11) [(.t 15)]⟩])
  (.cond (.t 16) (.seq (.region [⟨(some 17), none, .mov (.t 5)⟩,
    ⟨(some 4), none, .mov (.t 17)⟩])
  (.ret))
  (.skip)))))
  (.region [⟨(some 18), none, .bin .add (.t 8) (.c (.int .i64 1))⟩,
    ⟨(some 8), none, .mov (.t 18)⟩])))))))
  (.seq (.region [⟨(some 4), none, .mov (.c (.int .i64 (-1)))⟩])
  (.ret)))
def r85 : List Res := [.t 4]
def a85 : AFn := ⟨2, c85, r85, .v⟩

/-- math/bits.OnesCount16 -/
def c86 : ACode := .seq (.region [⟨(some 2), none, .mov (.c (.int .i64 0))⟩])
  (.seq (.region [⟨(some 3), none, .mov (.t 0)⟩,
    ⟨(some 4), none, .bin .shr (.t 3) (.c (.int .u64 8))⟩,
    ⟨(some 5), none, .sidx (.c (.str ⟨#[0, 1, 1, 2, 1, 2, 2, 3, 1, 2, 2, 3, 2, 3, 3, 4, 1, 2, 2, 3, 2, 3, 3, 4, 2, 3, 3, 4, 3, 4, 4, 5, 1, 2, 2, 3, 2, 3, 3, 4, 2, 3, 3, 4, 3, 4, 4, 5, 2, 3, 3, 4, 3, 4, 4, 5, 3, 4, 4, 5, 4, 5, 5, 6, 1, 2, 2, 3, 2, 3, 3, 4, 2, 3, 3, 4, 3, 4, 4, 5, 2, 3, 3, 4, 3, 4, 4, 5, 3, 4, 4, 5, 4, 5, 5, 6, 2, 3, 3, 4, 3, 4, 4, 5, 3, 4, 4, 5, 4, 5, 5, 6, 3, 4, 4, 5, 4, 5, 5, 6, 4, 5, 5, 6, 5, 6, 6, 7, 1, 2, 2, 3, 2, 3, 3, 4, 2, 3, 3, 4, 3, 4, 4, 5, 2, 3, 3, 4, 3, 4, 4, 5, 3, 4, 4, 5, 4, 5, 5, 6, 2, 3, 3, 4, 3, 4, 4, 5, 3, 4, 4, 5, 4, 5, 5, 6, 3, 4, 4, 5, 4, 5, 5, 6, 4, 5, 5, 6, 5, 6, 6, 7, 2, 3, 3, 4, 3, 4, 4, 5, 3, 4, 4, 5, 4, 5, 5, 6, 3, 4, 4, 5, 4, 5, 5, 6, 4, 5, 5, 6, 5, 6, 6, 7, 3, 4, 4, 5, 4, 5, 5, 6, 4, 5, 5, 6, 5, 6, 6, 7, 4, 5, 5, 6, 5, 6, 6, 7, 5, 6, 6, 7, 6, 7, 7, 8]⟩)) (.t 4)⟩,
    ⟨(some 6), none, .mov (.t 0)⟩,
    ⟨(some 7), none, .bin .and (.t 6) (.c (.int .u16 255))⟩,
    ⟨(some 8), none, .sidx (.c (.str ⟨#[0, 1, 1, 2, 1, 2, 2, 3, 1, 2, 2, 3, 2, 3, 3, 4, 1, 2, 2, 3, 2, 3, 3, 4, 2, 3, 3, 4, 3, 4, 4, 5, 1, 2, 2, 3, 2, 3, 3, 4, 2, 3, 3, 4, 3, 4, 4, 5, 2, 3, 3, 4, 3, 4, 4, 5, 3, 4, 4, 5, 4, 5, 5, 6, 1, 2, 2, 3, 2, 3, 3, 4, 2, 3, 3, 4, 3, 4, 4, 5, 2, 3, 3, 4, 3, 4, 4, 5, 3, 4, 4, 5, 4, 5, 5, 6, 2, 3, 3, 4, 3, 4, 4, 5, 3, 4, 4, 5, 4, 5, 5, 6, 3, 4, 4, 5, 4, 5, 5, 6, 4, 5, 5, 6, 5, 6, 6, 7, 1, 2, 2, 3, 2, 3, 3, 4, 2, 3, 3, 4, 3, 4, 4, 5, 2, 3, 3, 4, 3, 4, 4, 5, 3, 4, 4, 5, 4, 5, 5, 6, 2, 3, 3, 4, 3, 4, 4, 5, 3, 4, 4, 5, 4, 5, 5, 6, 3, 4, 4, 5, 4, 5, 5, 6, 4, 5, 5, 6, 5, 6, 6, 7, 2, 3, 3, 4, 3, 4, 4, 5, 3, 4, 4, 5, 4, 5, 5, 6, 3, 4, 4, 5, 4, 5, 5, 6, 4, 5, 5, 6, 5, 6, 6, 7, 3, 4, 4, 5, 4, 5, 5, 6, 4, 5, 5, 6, 5, 6, 6, 7, 4, 5, 5, 6, 5, 6, 6, 7, 5, 6, 6, 7, 6, 7, 7, 8]⟩)) (.t 7)⟩,
    ⟨(some 9), none, .bin .add (.t 5) (.t 8)⟩,
    ⟨(some 10), none, .conv .i64 (.t 9)⟩,
    ⟨(some 2), none, .mov (.t 10)⟩])
  (.ret))
def r86 : List Res := [.t 2]
def a86 : AFn := ⟨1, c86, r86, .v⟩

/-- (bijou/reel.feet).rows -/
def c87 : ACode := .block 0 (.loop (.seq (.seq (.region [⟨(some 5), none, .mov (.t 0)⟩,
    ⟨(some 6), none, .bin .neq (.t 5) (.c (.int .u16 0))⟩])
  (.cond (.t 6) (.skip)
  (.exit 0)))
  (.block 1 (.seq (.region [⟨(some 7), none, .mov (.t 0)⟩,
    ⟨(some 8), none, .mov (.t 0)⟩,
    ⟨(some 9), none, .call 96 [(.t 8)]⟩,
    ⟨(some 10), none, .bin .shr (.t 7) (.t 9)⟩,
    ⟨(some 0), none, .mov (.t 10)⟩])
  (.seq (.region [⟨(some 11), none, .mov (.t 0)⟩,
    ⟨(some 12), none, .cmpl (.t 11)⟩,
    ⟨(some 13), none, .call 96 [(.t 12)]⟩,
    ⟨(some 4), none, .mov (.t 13)⟩])
  (.seq (.seq (.region [⟨(some 14), none, .mov (.t 1)⟩,
    ⟨(some 15), none, .mov (.t 4)⟩,
    ⟨(some 16), none, .callv (.t 14) [(.t 15)]⟩,
    ⟨(some 17), none, .not (.t 16)⟩])
  (.cond (.t 17) (.ret)
  (.skip)))
  (.region [⟨(some 18), none, .mov (.t 0)⟩,
    ⟨(some 19), none, .mov (.t 4)⟩,
    ⟨(some 20), none, .bin .shr (.t 18) (.t 19)⟩,
    ⟨(some 0), none, .mov (.t 20)⟩])))))))
def r87 : List Res := []
def a87 : AFn := ⟨2, c87, r87, .r⟩

/-- bijou/reel.samePrints$1 -/
def c88 : ACode := .seq (.region [⟨(some 2), none, .box (.t 0) 2⟩,
    ⟨(some 3), none, .mov (.c (.bool false))⟩])
  (.seq (.region [⟨(some 4), none, .addr (.t 2) 0⟩,
    ⟨(some 5), none, .load (.t 4) none⟩,
    ⟨(some 6), none, .load (.t 1) none⟩,
    ⟨(some 7), none, .idx (.t 6) (.c (.int .i64 0)) 2⟩,
    ⟨(some 8), none, .addr (.t 7) 0⟩,
    ⟨(some 9), none, .load (.t 8) none⟩,
    ⟨(some 10), none, .bin .neq (.t 5) (.t 9)⟩,
    ⟨(some 3), none, .mov (.t 10)⟩])
  (.ret))
def r88 : List Res := [.t 3]
def a88 : AFn := ⟨2, c88, r88, .v⟩

/-- slices.ContainsFunc[[]bijou/api.Reel,bijou/api.Reel] -/
def c89 : ACode := .seq (.region [⟨(some 4), none, .mov (.c (.bool false))⟩])
  (.seq (.region [⟨(some 5), none, .mov (.t 0)⟩,
    ⟨(some 6), none, .mov (.t 1)⟩,
    ⟨(some 7), none, .call 97 [(.t 5), (.t 6)]⟩,
    ⟨(some 8), none, .bin .geq (.t 7) (.c (.int .i64 0))⟩,
    ⟨(some 4), none, .mov (.t 8)⟩])
  (.ret))
def r89 : List Res := [.t 4]
def a89 : AFn := ⟨2, c89, r89, .v⟩

/-- bijou/reel.claim -/
def c90 : ACode := .seq (.region [⟨(some 1), none, .box (.t 0) 5⟩,
    ⟨(some 2), none, .mov (.c .nilf)⟩])
  (.seq (.seq (.region [⟨(some 5), none, .addr (.t 1) 0⟩,
    ⟨(some 6), none, .load (.t 5) none⟩])
  (.block 0 (.seq (.region [⟨(some 8), none, .bin .eql (.t 6) (.c (.int .i64 2))⟩,
    ⟨(some 7), none, .mov (.t 8)⟩])
  (.cond (.t 7) (.seq (.region [⟨(some 9), none, .addr (.t 1) 1⟩,
    ⟨(some 10), none, .load (.t 9) none⟩,
    ⟨(some 11), none, .addr (.t 1) 2⟩,
    ⟨(some 12), none, .load (.t 11) none⟩,
    ⟨(some 13), none, .call 70 [(.t 10), (.t 12)]⟩,
    ⟨(some 3), none, .new (.int .u16 0) 1⟩,
    ⟨none, none, .store (.t 3) (.t 13) 1⟩])
  (.seq (.region [⟨(some 14), none, .clo 98 [] [(.t 3)]⟩,
    ⟨(some 2), none, .mov (.t 14)⟩])
  (.ret)))
  (.seq (.region [⟨(some 16), none, .bin .eql (.t 6) (.c (.int .i64 3))⟩,
    ⟨(some 15), none, .mov (.t 16)⟩])
  (.cond (.t 15) (.seq (.region [⟨(some 17), none, .addr (.t 1) 1⟩,
    ⟨(some 18), none, .load (.t 17) none⟩,
    ⟨(some 19), none, .addr (.t 1) 2⟩,
    ⟨(some 20), none, .load (.t 19) none⟩,
    ⟨(some 21), none, .call 70 [(.t 18), (.t 20)]⟩,
    ⟨(some 4), none, .new (.int .u16 0) 1⟩,
    ⟨none, none, .store (.t 4) (.t 21) 1⟩])
  (.seq (.region [⟨(some 22), none, .clo 99 [] [(.t 4)]⟩,
    ⟨(some 2), none, .mov (.t 22)⟩])
  (.ret)))
  (.seq (.region [⟨(some 24), none, .bin .eql (.t 6) (.c (.int .i64 4))⟩,
    ⟨(some 23), none, .mov (.t 24)⟩])
  (.cond (.t 23) (.seq (.region [⟨(some 25), none, .clo 100 [] [(.t 1)]⟩,
    ⟨(some 2), none, .mov (.t 25)⟩])
  (.ret))
  (.skip)))))))))
  (.seq (.region [⟨(some 26), none, .clo 102 [] [(.t 1)]⟩,
    ⟨(some 2), none, .mov (.t 26)⟩])
  (.ret)))
def r90 : List Res := [.t 2]
def a90 : AFn := ⟨1, c90, r90, .v⟩

/-- bijou/reel.newFamily -/
def c91 : ACode := .seq (.region [⟨(some 2), none, .mov (.c (.sl [] .tight))⟩])
  (.seq (.region [⟨(some 3), none, .mov (.t 0)⟩,
    ⟨(some 4), none, .bin .sub (.t 3) (.c (.int .i64 6))⟩,
    ⟨(some 5), none, .mnx true (.t 4) (.c (.int .i64 0))⟩,
    ⟨(some 6), none, .bin .shl (.c (.int .i64 1)) (.t 5)⟩,
    ⟨(some 7), none, .make (.int .u64 0) 117 1 8 (.t 6) (.t 6)⟩,
    ⟨(some 2), none, .mov (.t 7)⟩])
  (.ret))
def r91 : List Res := [.t 2]
def a91 : AFn := ⟨1, c91, r91, .o⟩

/-- slices.Backward[[]bijou/reel.family,bijou/reel.family] -/
def c92 : ACode := .seq (.region [⟨(some 1), none, .box (.t 0) 1⟩,
    ⟨(some 2), none, .mov (.c .nilf)⟩])
  (.seq (.region [⟨(some 3), none, .clo 103 [] [(.t 1)]⟩,
    ⟨(some 2), none, .mov (.t 3)⟩])
  (.ret))
def r92 : List Res := [.t 2]
def a92 : AFn := ⟨1, c92, r92, .r⟩

/-- (bijou/reel.family).torn -/
def c93 : ACode := .seq (.region [⟨(some 3), none, .box (.t 1) 5⟩,
    ⟨(some 4), none, .mov (.c (.sl [] .tight))⟩])
  (.seq (.region [⟨(some 10), none, .mov (.t 0)⟩,
    ⟨(some 11), none, .len (.t 10)⟩,
    ⟨(some 12), none, .make (.int .u64 0) 117 1 8 (.t 11) (.t 11)⟩,
    ⟨(some 5), none, .mov (.t 12)⟩])
  (.seq (.seq (.region [⟨(some 13), none, .addr (.t 3) 3⟩,
    ⟨(some 14), none, .addr (.t 13) 0⟩,
    ⟨(some 15), none, .load (.t 14) none⟩,
    ⟨(some 16), none, .bin .eql (.t 15) (.c (.int .i64 0))⟩])
  (.cond (.t 16) (.region [⟨(some 17), none, .mov (.t 5)⟩,
    ⟨(some 18), none, .mov (.t 0)⟩,
    ⟨(some 19), none, .call 94 [(.t 17), (.t 18)]⟩])
  (.skip)))
  (.seq (.region [⟨(some 20), none, .mov (.t 0)⟩,
    ⟨(some 21), none, .len (.t 20)⟩,
    ⟨(some 22), none, .make (.int .u64 0) 117 1 8 (.t 21) (.t 21)⟩,
    ⟨(some 6), none, .mov (.t 22)⟩])
  (.seq (.seq (.region [⟨(some 23), none, .addr (.t 3) 1⟩,
    ⟨(some 24), none, .load (.t 23) none⟩,
    ⟨(some 7), none, .mov (.t 24)⟩])
  (.block 0 (.loop (.seq (.seq (.region [⟨(some 25), none, .mov (.t 7)⟩,
    ⟨(some 26), none, .addr (.t 3) 2⟩,
    ⟨(some 27), none, .load (.t 26) none⟩,
    ⟨(some 28), none, .bin .leq (.t 25) (.t 27)⟩])
  (.cond (.t 28) (.skip)
  (.exit 0)))
  (.seq (.block 1 (.seq (.region [⟨(some 31), none, .mov (.t 6)⟩,
    ⟨(some 32), none, .mov (.t 0)⟩,
    ⟨(some 33), none, .cpy (.t 31) (.t 32) 1⟩])
  (.seq (.region [⟨(some 34), none, .addr (.t 3) 2⟩,
    ⟨(some 35), none, .load (.t 34) none⟩,
    ⟨(some 36), none, .mov (.t 7)⟩,
    ⟨(some 37), none, .addr (.t 3) 3⟩,
    ⟨(some 38), none, .addr (.t 37) 1⟩,
    ⟨(some 39), none, .load (.t 38) none⟩,
    ⟨(some 40), none, .bin .add (.t 36) (.t 39)⟩,
    ⟨(some 41), none, .bin .sub (.t 40) (.c (.int .i64 1))⟩,
    ⟨(some 42), none, .mnx false (.t 35) (.t 41)⟩,
    ⟨(some 8), none, .mov (.t 42)⟩])
  (.seq (.region [⟨(some 43), none, .mov (.t 7)⟩,
    ⟨(some 9), none, .mov (.t 43)⟩])
  (.block 2 (.loop (.seq (.seq (.region [⟨(some 44), none, .mov (.t 9)⟩,
    ⟨(some 45), none, .mov (.t 8)⟩,
    ⟨(some 46), none, .bin .leq (.t 44) (.t 45)⟩])
  (.cond (.t 46) (.skip)
  (.exit 2)))
  (.seq (.block 3 (.seq (.region [⟨(some 49), none, .mov (.t 6)⟩,
    ⟨(some 50), none, .mov (.t 9)⟩,
    ⟨(some 51), none, .call 104 [(.t 49), (.t 50)]⟩])
  (.seq (.region [⟨(some 52), none, .mov (.t 9)⟩,
    ⟨(some 53), none, .mov (.t 7)⟩,
    ⟨(some 54), none, .bin .sub (.t 52) (.t 53)⟩,
    ⟨(some 55), none, .bin .add (.t 54) (.c (.int .i64 1))⟩,
    ⟨(some 56), none, .addr (.t 3) 3⟩,
    ⟨(some 57), none, .addr (.t 56) 0⟩,
    ⟨(some 58), none, .load (.t 57) none⟩,
    ⟨(some 59), none, .bin .geq (.t 55) (.t 58)⟩])
  (.cond (.t 59) (.region [⟨(some 60), none, .mov (.t 5)⟩,
    ⟨(some 61), none, .mov (.t 6)⟩,
    ⟨(some 62), none, .call 94 [(.t 60), (.t 61)]⟩])
  (.skip)))))
  (.region [⟨(some 47), none, .mov (.t 9)⟩,
    ⟨(some 48), none, .bin .add (.t 47) (.c (.int .i64 1))⟩,
    ⟨(some 9), none, .mov (.t 48)⟩])))))))))
  (.region [⟨(some 29), none, .mov (.t 7)⟩,
    ⟨(some 30), none, .bin .add (.t 29) (.c (.int .i64 1))⟩,
    ⟨(some 7), none, .mov (.t 30)⟩]))))))
  (.seq (.region [⟨(some 63), none, .mov (.t 5)⟩,
    ⟨(some 4), none, .mov (.t 63)⟩])
  (.ret))))))
def r93 : List Res := [.t 4]
def a93 : AFn := ⟨2, c93, r93, .o⟩

/-- (bijou/reel.family).join -/
def c94 : ACode := .seq (.region [⟨(some 5), none, .mov (.t 0)⟩,
    ⟨(some 6), none, .len (.t 5)⟩,
    ⟨(some 7), none, .mov (.c (.int .i64 0))⟩])
  (.block 0 (.loop (.seq (.region [⟨(some 8), none, .bin .lss (.t 7) (.t 6)⟩])
  (.seq (.cond (.t 8) (.skip)
  (.exit 0))
  (.seq (.block 1 (.seq (.region [⟨(some 9), none, .mov (.t 7)⟩,
    ⟨(some 4), none, .mov (.t 9)⟩])
  (.region [⟨(some 10), none, .mov (.t 0)⟩,
    ⟨(some 11), none, .mov (.t 4)⟩,
    ⟨(some 12), none, .idx (.t 10) (.t 11) 1⟩,
    ⟨(some 13), none, .load (.t 12) none⟩,
    ⟨(some 14), none, .mov (.t 1)⟩,
    ⟨(some 15), none, .mov (.t 4)⟩,
    ⟨(some 16), none, .idx (.t 14) (.t 15) 1⟩,
    ⟨(some 17), none, .load (.t 16) none⟩,
    ⟨(some 18), none, .bin .or (.t 13) (.t 17)⟩,
    ⟨(some 19), none, .idx (.t 10) (.t 11) 1⟩,
    ⟨none, none, .store (.t 19) (.t 18) 1⟩])))
  (.region [⟨(some 20), none, .bin .add (.t 7) (.c (.int .i64 1))⟩,
    ⟨(some 7), none, .mov (.t 20)⟩]))))))
def r94 : List Res := []
def a94 : AFn := ⟨2, c94, r94, .r⟩

/-- math/bits.TrailingZeros64 -/
def c95 : ACode := .seq (.region [⟨(some 2), none, .mov (.c (.int .i64 0))⟩])
  (.seq (.seq (.region [⟨(some 3), none, .mov (.t 0)⟩,
    ⟨(some 4), none, .bin .eql (.t 3) (.c (.int .u64 0))⟩])
  (.cond (.t 4) (.seq (.region [⟨(some 2), none, .mov (.c (.int .i64 64))⟩])
  (.ret))
  (.skip)))
  (.seq (.region [⟨(some 5), none, .mov (.t 0)⟩,
    ⟨(some 6), none, .mov (.t 0)⟩,
    ⟨(some 7), none, .neg (.t 6)⟩,
    ⟨(some 8), none, .bin .and (.t 5) (.t 7)⟩,
    ⟨(some 9), none, .bin .mul (.t 8) (.c (.int .u64 285870213051353865))⟩,
    ⟨(some 10), none, .bin .shr (.t 9) (.c (.int .u64 58))⟩,
    ⟨(some 11), none, .aidx (.c (.pv tab0 0)) (.t 10) 64 1⟩,
    ⟨(some 12), none, .load (.t 11) none⟩,
    ⟨(some 13), none, .conv .i64 (.t 12)⟩,
    ⟨(some 2), none, .mov (.t 13)⟩])
  (.ret)))
def r95 : List Res := [.t 2]
def a95 : AFn := ⟨1, c95, r95, .v⟩

/-- math/bits.TrailingZeros16 -/
def c96 : ACode := .seq (.region [⟨(some 2), none, .mov (.c (.int .i64 0))⟩])
  (.seq (.seq (.region [⟨(some 3), none, .mov (.t 0)⟩,
    ⟨(some 4), none, .bin .eql (.t 3) (.c (.int .u16 0))⟩])
  (.cond (.t 4) (.seq (.region [⟨(some 2), none, .mov (.c (.int .i64 16))⟩])
  (.ret))
  (.skip)))
  (.seq (.region [⟨(some 5), none, .mov (.t 0)⟩,
    ⟨(some 6), none, .mov (.t 0)⟩,
    ⟨(some 7), none, .neg (.t 6)⟩,
    ⟨(some 8), none, .bin .and (.t 5) (.t 7)⟩,
    ⟨(some 9), none, .conv .u32 (.t 8)⟩,
    ⟨(some 10), none, .bin .mul (.t 9) (.c (.int .u32 125613361))⟩,
    ⟨(some 11), none, .bin .shr (.t 10) (.c (.int .u64 27))⟩,
    ⟨(some 12), none, .aidx (.c (.pv tab1 0)) (.t 11) 32 1⟩,
    ⟨(some 13), none, .load (.t 12) none⟩,
    ⟨(some 14), none, .conv .i64 (.t 13)⟩,
    ⟨(some 2), none, .mov (.t 14)⟩])
  (.ret)))
def r96 : List Res := [.t 2]
def a96 : AFn := ⟨1, c96, r96, .v⟩

/-- slices.IndexFunc[[]bijou/api.Reel,bijou/api.Reel] -/
def c97 : ACode := .seq (.region [⟨(some 4), none, .mov (.c (.int .i64 0))⟩])
  (.seq (.seq (.region [⟨(some 6), none, .mov (.t 0)⟩,
    ⟨(some 7), none, .len (.t 6)⟩,
    ⟨(some 8), none, .mov (.c (.int .i64 0))⟩])
  (.block 0 (.loop (.seq (.region [⟨(some 9), none, .bin .lss (.t 8) (.t 7)⟩])
  (.seq (.cond (.t 9) (.skip)
  (.exit 0))
  (.seq (.block 1 (.seq (.region [⟨(some 10), none, .mov (.t 8)⟩,
    ⟨(some 5), none, .mov (.t 10)⟩])
  (.seq (.region [⟨(some 11), none, .mov (.t 1)⟩,
    ⟨(some 12), none, .mov (.t 0)⟩,
    ⟨(some 13), none, .mov (.t 5)⟩,
    ⟨(some 14), none, .idx (.t 12) (.t 13) 2⟩,
    ⟨(some 15), none, .load (.t 14) (some 2)⟩,
    ⟨(some 16), none, .callv (.t 11) [(.t 15)]⟩])
  (.cond (.t 16) (.seq (.region [⟨(some 17), none, .mov (.t 5)⟩,
    ⟨(some 4), none, .mov (.t 17)⟩])
  (.ret))
  (.skip)))))
  (.region [⟨(some 18), none, .bin .add (.t 8) (.c (.int .i64 1))⟩,
    ⟨(some 8), none, .mov (.t 18)⟩])))))))
  (.seq (.region [⟨(some 4), none, .mov (.c (.int .i64 (-1)))⟩])
  (.ret)))
def r97 : List Res := [.t 4]
def a97 : AFn := ⟨2, c97, r97, .v⟩

/-- bijou/reel.claim$1 -/
def c98 : ACode := .seq (.region [⟨(some 3), none, .mov (.c (.bool false))⟩])
  (.seq (.region [⟨(some 4), none, .mov (.t 0)⟩,
    ⟨(some 5), none, .load (.t 1) none⟩,
    ⟨(some 6), none, .bin .and (.t 4) (.t 5)⟩,
    ⟨(some 7), none, .load (.t 1) none⟩,
    ⟨(some 8), none, .bin .eql (.t 6) (.t 7)⟩,
    ⟨(some 3), none, .mov (.t 8)⟩])
  (.ret))
def r98 : List Res := [.t 3]
def a98 : AFn := ⟨2, c98, r98, .v⟩

/-- bijou/reel.claim$2 -/
def c99 : ACode := .seq (.region [⟨(some 3), none, .mov (.c (.bool false))⟩])
  (.seq (.region [⟨(some 4), none, .mov (.t 0)⟩,
    ⟨(some 5), none, .load (.t 1) none⟩,
    ⟨(some 6), none, .bin .and (.t 4) (.t 5)⟩,
    ⟨(some 7), none, .load (.t 1) none⟩,
    ⟨(some 8), none, .bin .neq (.t 6) (.t 7)⟩,
    ⟨(some 3), none, .mov (.t 8)⟩])
  (.ret))
def r99 : List Res := [.t 3]
def a99 : AFn := ⟨2, c99, r99, .v⟩

/-- bijou/reel.claim$3 -/
def c100 : ACode := .seq (.region [⟨(some 3), none, .mov (.c (.bool false))⟩])
  (.seq (.region [⟨(some 4), none, .addr (.t 1) 3⟩,
    ⟨(some 5), none, .load (.t 4) (some 2)⟩,
    ⟨(some 6), none, .mov (.t 0)⟩,
    ⟨(some 7), none, .call 62 [(.t 6)]⟩,
    ⟨(some 8), none, .call 101 [(.t 5), (.t 7)]⟩,
    ⟨(some 3), none, .mov (.t 8)⟩])
  (.ret))
def r100 : List Res := [.t 3]
def a100 : AFn := ⟨2, c100, r100, .v⟩

/-- bijou/reel.holds -/
def c101 : ACode := .seq (.region [⟨(some 2), none, .box (.t 0) 2⟩,
    ⟨(some 4), none, .mov (.c (.bool false))⟩])
  (.seq (.region [⟨(some 5), none, .addr (.t 2) 0⟩,
    ⟨(some 6), none, .load (.t 5) none⟩,
    ⟨(some 7), none, .mov (.t 1)⟩,
    ⟨(some 8), none, .bin .leq (.t 6) (.t 7)⟩,
    ⟨(some 9), none, .mov (.t 8)⟩,
    ⟨(some 10), some (9, true), .mov (.t 1)⟩,
    ⟨(some 11), some (9, true), .addr (.t 2) 1⟩,
    ⟨(some 12), some (9, true), .load (.t 11) none⟩,
    ⟨(some 13), some (9, true), .bin .leq (.t 10) (.t 12)⟩,
    ⟨(some 14), none, .pick (.t 9) (.t 13) (.c (.bool false))⟩,
    ⟨(some 4), none, .mov (.t 14)⟩])
  (.ret))
def r101 : List Res := [.t 4]
def a101 : AFn := ⟨2, c101, r101, .v⟩

/-- bijou/reel.claim$4 -/
def c102 : ACode := .seq (.region [⟨(some 3), none, .mov (.c (.bool false))⟩])
  (.seq (.region [⟨(some 4), none, .addr (.t 1) 3⟩,
    ⟨(some 5), none, .load (.t 4) (some 2)⟩,
    ⟨(some 6), none, .mov (.t 0)⟩,
    ⟨(some 7), none, .call 64 [(.t 6)]⟩,
    ⟨(some 8), none, .call 101 [(.t 5), (.t 7)]⟩,
    ⟨(some 3), none, .mov (.t 8)⟩])
  (.ret))
def r102 : List Res := [.t 3]
def a102 : AFn := ⟨2, c102, r102, .v⟩

/-- slices.Backward[[]bijou/reel.family,bijou/reel.family]$1 -/
def c103 : ACode := .seq (.region [⟨(some 4), none, .load (.t 1) none⟩,
    ⟨(some 5), none, .len (.t 4)⟩,
    ⟨(some 6), none, .bin .sub (.t 5) (.c (.int .i64 1))⟩,
    ⟨(some 3), none, .mov (.t 6)⟩])
  (.block 0 (.loop (.seq (.seq (.region [⟨(some 7), none, .mov (.t 3)⟩,
    ⟨(some 8), none, .bin .geq (.t 7) (.c (.int .i64 0))⟩])
  (.cond (.t 8) (.skip)
  (.exit 0)))
  (.seq (.block 1 (.seq (.region [⟨(some 11), none, .mov (.t 0)⟩,
    ⟨(some 12), none, .mov (.t 3)⟩,
    ⟨(some 13), none, .load (.t 1) none⟩,
    ⟨(some 14), none, .mov (.t 3)⟩,
    ⟨(some 15), none, .idx (.t 13) (.t 14) 1⟩,
    ⟨(some 16), none, .load (.t 15) none⟩,
    ⟨(some 17), none, .callv (.t 11) [(.t 12), (.t 16)]⟩,
    ⟨(some 18), none, .not (.t 17)⟩])
  (.cond (.t 18) (.ret)
  (.skip))))
  (.region [⟨(some 9), none, .mov (.t 3)⟩,
    ⟨(some 10), none, .bin .sub (.t 9) (.c (.int .i64 1))⟩,
    ⟨(some 3), none, .mov (.t 10)⟩])))))
def r103 : List Res := []
def a103 : AFn := ⟨2, c103, r103, .r⟩

/-- (bijou/reel.family).add -/
def c104 : ACode := .seq (.seq (.region [⟨(some 8), none, .mov (.t 1)⟩,
    ⟨(some 9), none, .bin .lss (.t 8) (.c (.int .i64 6))⟩])
  (.cond (.t 9) (.seq (.seq (.region [⟨(some 10), none, .mov (.t 0)⟩,
    ⟨(some 11), none, .len (.t 10)⟩,
    ⟨(some 12), none, .mov (.c (.int .i64 0))⟩])
  (.block 0 (.loop (.seq (.region [⟨(some 13), none, .bin .lss (.t 12) (.t 11)⟩])
  (.seq (.cond (.t 13) (.skip)
  (.exit 0))
  (.seq (.block 1 (.seq (.region [⟨(some 14), none, .mov (.t 12)⟩,
    ⟨(some 15), none, .idx (.t 10) (.t 12) 1⟩,
    ⟨(some 16), none, .load (.t 15) none⟩,
    ⟨(some 4), none, .mov (.t 14)⟩,
    ⟨(some 5), none, .mov (.t 16)⟩])
  (.region [⟨(some 17), none, .mov (.t 0)⟩,
    ⟨(some 18), none, .mov (.t 4)⟩,
    ⟨(some 19), none, .mov (.t 5)⟩,
    ⟨(some 20), none, .mov (.t 5)⟩,
    ⟨(some 21), none, .mov (.t 1)⟩,
    ⟨(some 22), none, .bin .shl (.c (.int .u64 1)) (.t 21)⟩,
    ⟨(some 23), none, .bin .shl (.t 20) (.t 22)⟩,
    ⟨(some 24), none, .bin .or (.t 19) (.t 23)⟩,
    ⟨(some 25), none, .mov (.t 1)⟩,
    ⟨(some 26), none, .aidx (.c (.pv tab2 0)) (.t 25) 6 1⟩,
    ⟨(some 27), none, .load (.t 26) none⟩,
    ⟨(some 28), none, .bin .and (.t 24) (.t 27)⟩,
    ⟨(some 29), none, .idx (.t 17) (.t 18) 1⟩,
    ⟨none, none, .store (.t 29) (.t 28) 1⟩])))
  (.region [⟨(some 30), none, .bin .add (.t 12) (.c (.int .i64 1))⟩,
    ⟨(some 12), none, .mov (.t 30)⟩])))))))
  (.ret))
  (.skip)))
  (.seq (.region [⟨(some 31), none, .mov (.t 1)⟩,
    ⟨(some 32), none, .bin .sub (.t 31) (.c (.int .i64 6))⟩,
    ⟨(some 33), none, .bin .shl (.c (.int .i64 1)) (.t 32)⟩,
    ⟨(some 6), none, .mov (.t 33)⟩])
  (.seq (.region [⟨(some 34), none, .mov (.t 0)⟩,
    ⟨(some 35), none, .len (.t 34)⟩,
    ⟨(some 36), none, .mov (.c (.int .i64 0))⟩])
  (.block 2 (.loop (.seq (.region [⟨(some 37), none, .bin .lss (.t 36) (.t 35)⟩])
  (.seq (.cond (.t 37) (.skip)
  (.exit 2))
  (.seq (.block 3 (.seq (.region [⟨(some 38), none, .mov (.t 36)⟩,
    ⟨(some 7), none, .mov (.t 38)⟩])
  (.seq (.region [⟨(some 39), none, .mov (.t 7)⟩,
    ⟨(some 40), none, .mov (.t 6)⟩,
    ⟨(some 41), none, .bin .and (.t 39) (.t 40)⟩,
    ⟨(some 42), none, .bin .neq (.t 41) (.c (.int .i64 0))⟩])
  (.cond (.t 42) (.seq (.region [⟨(some 43), none, .mov (.t 0)⟩,
    ⟨(some 44), none, .mov (.t 7)⟩,
    ⟨(some 45), none, .idx (.t 43) (.t 44) 1⟩,
    ⟨(some 46), none, .load (.t 45) none⟩,
    ⟨(some 47), none, .mov (.t 0)⟩,
    ⟨(some 48), none, .mov (.t 7)⟩,
    ⟨(some 49), none, .mov (.t 6)⟩,
    ⟨(some 50), none, .bin .sub (.t 48) (.t 49)⟩,
    ⟨(some 51), none, .idx (.t 47) (.t 50) 1⟩,
    ⟨(some 52), none, .load (.t 51) none⟩,
    ⟨(some 53), none, .bin .or (.t 46) (.t 52)⟩,
    ⟨(some 54), none, .idx (.t 43) (.t 44) 1⟩,
    ⟨none, none, .store (.t 54) (.t 53) 1⟩])
  (.region [⟨(some 55), none, .mov (.t 0)⟩,
    ⟨(some 56), none, .mov (.t 7)⟩,
    ⟨(some 57), none, .mov (.t 6)⟩,
    ⟨(some 58), none, .bin .sub (.t 56) (.t 57)⟩,
    ⟨(some 59), none, .idx (.t 55) (.t 58) 1⟩,
    ⟨none, none, .store (.t 59) (.c (.int .u64 0)) 1⟩]))
  (.skip)))))
  (.region [⟨(some 60), none, .bin .add (.t 36) (.c (.int .i64 1))⟩,
    ⟨(some 36), none, .mov (.t 60)⟩]))))))))
def r104 : List Res := []
def a104 : AFn := ⟨2, c104, r104, .r⟩



def ft : FuncId → Option AFn
  | 3 => some a3
  | 4 => some a4
  | 5 => some a5
  | 6 => some a6
  | 7 => some a7
  | 8 => some a8
  | 9 => some a9
  | 10 => some a10
  | 11 => some a11
  | 12 => some a12
  | 13 => some a13
  | 14 => some a14
  | 15 => some a15
  | 16 => some a16
  | 17 => some a17
  | 18 => some a18
  | 19 => some a19
  | 20 => some a20
  | 21 => some a21
  | 22 => some a22
  | 23 => some a23
  | 24 => some a24
  | 25 => some a25
  | 26 => some a26
  | 27 => some a27
  | 28 => some a28
  | 29 => some a29
  | 30 => some a30
  | 31 => some a31
  | 32 => some a32
  | 33 => some a33
  | 34 => some a34
  | 35 => some a35
  | 36 => some a36
  | 37 => some a37
  | 38 => some a38
  | 39 => some a39
  | 40 => some a40
  | 41 => some a41
  | 42 => some a42
  | 43 => some a43
  | 44 => some a44
  | 45 => some a45
  | 46 => some a46
  | 47 => some a47
  | 48 => some a48
  | 49 => some a49
  | 50 => some a50
  | 51 => some a51
  | 52 => some a52
  | 53 => some a53
  | 54 => some a54
  | 55 => some a55
  | 56 => some a56
  | 57 => some a57
  | 58 => some a58
  | 59 => some a59
  | 60 => some a60
  | 61 => some a61
  | 62 => some a62
  | 63 => some a63
  | 64 => some a64
  | 65 => some a65
  | 66 => some a66
  | 67 => some a67
  | 68 => some a68
  | 69 => some a69
  | 70 => some a70
  | 71 => some a71
  | 72 => some a72
  | 73 => some a73
  | 74 => some a74
  | 75 => some a75
  | 76 => some a76
  | 77 => some a77
  | 78 => some a78
  | 79 => some a79
  | 80 => some a80
  | 81 => some a81
  | 82 => some a82
  | 83 => some a83
  | 84 => some a84
  | 85 => some a85
  | 86 => some a86
  | 87 => some a87
  | 88 => some a88
  | 89 => some a89
  | 90 => some a90
  | 91 => some a91
  | 92 => some a92
  | 93 => some a93
  | 94 => some a94
  | 95 => some a95
  | 96 => some a96
  | 97 => some a97
  | 98 => some a98
  | 99 => some a99
  | 100 => some a100
  | 101 => some a101
  | 102 => some a102
  | 103 => some a103
  | 104 => some a104
  | _ => none
theorem ft3 : ft 3 = some a3 := rfl
theorem ft4 : ft 4 = some a4 := rfl
theorem ft5 : ft 5 = some a5 := rfl
theorem ft6 : ft 6 = some a6 := rfl
theorem ft7 : ft 7 = some a7 := rfl
theorem ft8 : ft 8 = some a8 := rfl
theorem ft9 : ft 9 = some a9 := rfl
theorem ft10 : ft 10 = some a10 := rfl
theorem ft11 : ft 11 = some a11 := rfl
theorem ft12 : ft 12 = some a12 := rfl
theorem ft13 : ft 13 = some a13 := rfl
theorem ft14 : ft 14 = some a14 := rfl
theorem ft15 : ft 15 = some a15 := rfl
theorem ft16 : ft 16 = some a16 := rfl
theorem ft17 : ft 17 = some a17 := rfl
theorem ft18 : ft 18 = some a18 := rfl
theorem ft19 : ft 19 = some a19 := rfl
theorem ft20 : ft 20 = some a20 := rfl
theorem ft21 : ft 21 = some a21 := rfl
theorem ft22 : ft 22 = some a22 := rfl
theorem ft23 : ft 23 = some a23 := rfl
theorem ft24 : ft 24 = some a24 := rfl
theorem ft25 : ft 25 = some a25 := rfl
theorem ft26 : ft 26 = some a26 := rfl
theorem ft27 : ft 27 = some a27 := rfl
theorem ft28 : ft 28 = some a28 := rfl
theorem ft29 : ft 29 = some a29 := rfl
theorem ft30 : ft 30 = some a30 := rfl
theorem ft31 : ft 31 = some a31 := rfl
theorem ft32 : ft 32 = some a32 := rfl
theorem ft33 : ft 33 = some a33 := rfl
theorem ft34 : ft 34 = some a34 := rfl
theorem ft35 : ft 35 = some a35 := rfl
theorem ft36 : ft 36 = some a36 := rfl
theorem ft37 : ft 37 = some a37 := rfl
theorem ft38 : ft 38 = some a38 := rfl
theorem ft39 : ft 39 = some a39 := rfl
theorem ft40 : ft 40 = some a40 := rfl
theorem ft41 : ft 41 = some a41 := rfl
theorem ft42 : ft 42 = some a42 := rfl
theorem ft43 : ft 43 = some a43 := rfl
theorem ft44 : ft 44 = some a44 := rfl
theorem ft45 : ft 45 = some a45 := rfl
theorem ft46 : ft 46 = some a46 := rfl
theorem ft47 : ft 47 = some a47 := rfl
theorem ft48 : ft 48 = some a48 := rfl
theorem ft49 : ft 49 = some a49 := rfl
theorem ft50 : ft 50 = some a50 := rfl
theorem ft51 : ft 51 = some a51 := rfl
theorem ft52 : ft 52 = some a52 := rfl
theorem ft53 : ft 53 = some a53 := rfl
theorem ft54 : ft 54 = some a54 := rfl
theorem ft55 : ft 55 = some a55 := rfl
theorem ft56 : ft 56 = some a56 := rfl
theorem ft57 : ft 57 = some a57 := rfl
theorem ft58 : ft 58 = some a58 := rfl
theorem ft59 : ft 59 = some a59 := rfl
theorem ft60 : ft 60 = some a60 := rfl
theorem ft61 : ft 61 = some a61 := rfl
theorem ft62 : ft 62 = some a62 := rfl
theorem ft63 : ft 63 = some a63 := rfl
theorem ft64 : ft 64 = some a64 := rfl
theorem ft65 : ft 65 = some a65 := rfl
theorem ft66 : ft 66 = some a66 := rfl
theorem ft67 : ft 67 = some a67 := rfl
theorem ft68 : ft 68 = some a68 := rfl
theorem ft69 : ft 69 = some a69 := rfl
theorem ft70 : ft 70 = some a70 := rfl
theorem ft71 : ft 71 = some a71 := rfl
theorem ft72 : ft 72 = some a72 := rfl
theorem ft73 : ft 73 = some a73 := rfl
theorem ft74 : ft 74 = some a74 := rfl
theorem ft75 : ft 75 = some a75 := rfl
theorem ft76 : ft 76 = some a76 := rfl
theorem ft77 : ft 77 = some a77 := rfl
theorem ft78 : ft 78 = some a78 := rfl
theorem ft79 : ft 79 = some a79 := rfl
theorem ft80 : ft 80 = some a80 := rfl
theorem ft81 : ft 81 = some a81 := rfl
theorem ft82 : ft 82 = some a82 := rfl
theorem ft83 : ft 83 = some a83 := rfl
theorem ft84 : ft 84 = some a84 := rfl
theorem ft85 : ft 85 = some a85 := rfl
theorem ft86 : ft 86 = some a86 := rfl
theorem ft87 : ft 87 = some a87 := rfl
theorem ft88 : ft 88 = some a88 := rfl
theorem ft89 : ft 89 = some a89 := rfl
theorem ft90 : ft 90 = some a90 := rfl
theorem ft91 : ft 91 = some a91 := rfl
theorem ft92 : ft 92 = some a92 := rfl
theorem ft93 : ft 93 = some a93 := rfl
theorem ft94 : ft 94 = some a94 := rfl
theorem ft95 : ft 95 = some a95 := rfl
theorem ft96 : ft 96 = some a96 := rfl
theorem ft97 : ft 97 = some a97 := rfl
theorem ft98 : ft 98 = some a98 := rfl
theorem ft99 : ft 99 = some a99 := rfl
theorem ft100 : ft 100 = some a100 := rfl
theorem ft101 : ft 101 = some a101 := rfl
theorem ft102 : ft 102 = some a102 := rfl
theorem ft103 : ft 103 = some a103 := rfl
theorem ft104 : ft 104 = some a104 := rfl

end Go.Ab.T
end

section
namespace Go.Ab.T
theorem WB3 (s : St) (as : List AV) (K : AV → St → Prop) : WB ft 3 as s K = WV ft 3 (as.map (snap s.mem dep)) fun v => (as.all (fun a => !hot dep a) || plain dep v) = true ∧ K v s := WB_v ft3 rfl as s K
theorem WB4 (s : St) (as : List AV) (K : AV → St → Prop) : WB ft 4 as s K = WV ft 4 (as.map (snap s.mem dep)) fun v => (as.all (fun a => !hot dep a) || plain dep v) = true ∧ K v s := WB_v ft4 rfl as s K
theorem WB5 (s : St) (as : List AV) (K : AV → St → Prop) : WB ft 5 as s K = WV ft 5 (as.map (snap s.mem dep)) fun v => (as.all (fun a => !hot dep a) || plain dep v) = true ∧ K v s := WB_v ft5 rfl as s K
theorem WB6 (s : St) (as : List AV) (K : AV → St → Prop) : WB ft 6 as s K = WV ft 6 (as.map (snap s.mem dep)) fun v => (as.all (fun a => !hot dep a) || plain dep v) = true ∧ K v s := WB_v ft6 rfl as s K
theorem WB7 (s : St) (as : List AV) (K : AV → St → Prop) : WB ft 7 as s K = WV ft 7 (as.map (snap s.mem dep)) fun v => (as.all (fun a => !hot dep a) || plain dep v) = true ∧ K v s := WB_v ft7 rfl as s K
theorem WB8 (s : St) (as : List AV) (K : AV → St → Prop) : WB ft 8 as s K = WV ft 8 (as.map (snap s.mem dep)) fun v => (as.all (fun a => !hot dep a) || plain dep v) = true ∧ K v s := WB_v ft8 rfl as s K
theorem WB9 (s : St) (as : List AV) (K : AV → St → Prop) : WB ft 9 as s K = WV ft 9 (as.map (snap s.mem dep)) fun v => (as.all (fun a => !hot dep a) || plain dep v) = true ∧ K v s := WB_v ft9 rfl as s K
theorem WB10 (s : St) (as : List AV) (K : AV → St → Prop) : WB ft 10 as s K = WV ft 10 (as.map (snap s.mem dep)) fun v => (as.all (fun a => !hot dep a) || plain dep v) = true ∧ K v s := WB_v ft10 rfl as s K
theorem WB11 (s : St) (as : List AV) (K : AV → St → Prop) : WB ft 11 as s K = WV ft 11 (as.map (snap s.mem dep)) fun v => (as.all (fun a => !hot dep a) || plain dep v) = true ∧ K v s := WB_v ft11 rfl as s K
theorem WB12 (s : St) (as : List AV) (K : AV → St → Prop) : WB ft 12 as s K = WV ft 12 (as.map (snap s.mem dep)) fun v => (as.all (fun a => !hot dep a) || plain dep v) = true ∧ K v s := WB_v ft12 rfl as s K
theorem WB13 (s : St) (as : List AV) (K : AV → St → Prop) : WB ft 13 as s K = WV ft 13 (as.map (snap s.mem dep)) fun v => (as.all (fun a => !hot dep a) || plain dep v) = true ∧ K v s := WB_v ft13 rfl as s K
theorem WB14 (s : St) (as : List AV) (K : AV → St → Prop) : WB ft 14 as s K = WV ft 14 (as.map (snap s.mem dep)) fun v => (as.all (fun a => !hot dep a) || plain dep v) = true ∧ K v s := WB_v ft14 rfl as s K
theorem WB15 (s : St) (as : List AV) (K : AV → St → Prop) : WB ft 15 as s K = WV ft 15 (as.map (snap s.mem dep)) fun v => (as.all (fun a => !hot dep a) || plain dep v) = true ∧ K v s := WB_v ft15 rfl as s K
theorem WB16 (s : St) (as : List AV) (K : AV → St → Prop) : WB ft 16 as s K = WR ft (.f 16) (as.map (snap s.mem dep)) .nil fun v m => (as.all (fun a => !hot dep a) || (ownly dep v && m.blks.all Blk.ownly)) = true ∧
      K (shift s.mem.blks.length s.mem.toks.length dep v) (s.setMem (joinMem s.mem m dep)) := WB_o ft16 rfl as s K
theorem WB17 (s : St) (as : List AV) (K : AV → St → Prop) : WB ft 17 as s K = WV ft 17 (as.map (snap s.mem dep)) fun v => (as.all (fun a => !hot dep a) || plain dep v) = true ∧ K v s := WB_v ft17 rfl as s K
theorem WB18 (s : St) (as : List AV) (K : AV → St → Prop) : WB ft 18 as s K = WV ft 18 (as.map (snap s.mem dep)) fun v => (as.all (fun a => !hot dep a) || plain dep v) = true ∧ K v s := WB_v ft18 rfl as s K
theorem WB19 (s : St) (as : List AV) (K : AV → St → Prop) : WB ft 19 as s K = WV ft 19 (as.map (snap s.mem dep)) fun v => (as.all (fun a => !hot dep a) || plain dep v) = true ∧ K v s := WB_v ft19 rfl as s K
theorem WB20 (s : St) (as : List AV) (K : AV → St → Prop) : WB ft 20 as s K = WV ft 20 (as.map (snap s.mem dep)) fun v => (as.all (fun a => !hot dep a) || plain dep v) = true ∧ K v s := WB_v ft20 rfl as s K
theorem WB21 (s : St) (as : List AV) (K : AV → St → Prop) : WB ft 21 as s K = WV ft 21 (as.map (snap s.mem dep)) fun v => (as.all (fun a => !hot dep a) || plain dep v) = true ∧ K v s := WB_v ft21 rfl as s K
theorem WB22 (s : St) (as : List AV) (K : AV → St → Prop) : WB ft 22 as s K = WV ft 22 (as.map (snap s.mem dep)) fun v => (as.all (fun a => !hot dep a) || plain dep v) = true ∧ K v s := WB_v ft22 rfl as s K
theorem WB23 (s : St) (as : List AV) (K : AV → St → Prop) : WB ft 23 as s K = WV ft 23 (as.map (snap s.mem dep)) fun v => (as.all (fun a => !hot dep a) || plain dep v) = true ∧ K v s := WB_v ft23 rfl as s K
theorem WB24 (s : St) (as : List AV) (K : AV → St → Prop) : WB ft 24 as s K = WV ft 24 (as.map (snap s.mem dep)) fun v => (as.all (fun a => !hot dep a) || plain dep v) = true ∧ K v s := WB_v ft24 rfl as s K
theorem WB25 (s : St) (as : List AV) (K : AV → St → Prop) : WB ft 25 as s K = WV ft 25 (as.map (snap s.mem dep)) fun v => (as.all (fun a => !hot dep a) || plain dep v) = true ∧ K v s := WB_v ft25 rfl as s K
theorem WB26 (s : St) (as : List AV) (K : AV → St → Prop) : WB ft 26 as s K = WV ft 26 (as.map (snap s.mem dep)) fun v => (as.all (fun a => !hot dep a) || plain dep v) = true ∧ K v s := WB_v ft26 rfl as s K
theorem WB27 (s : St) (as : List AV) (K : AV → St → Prop) : WB ft 27 as s K = WV ft 27 (as.map (snap s.mem dep)) fun v => (as.all (fun a => !hot dep a) || plain dep v) = true ∧ K v s := WB_v ft27 rfl as s K
theorem WB28 (s : St) (as : List AV) (K : AV → St → Prop) : WB ft 28 as s K = WV ft 28 (as.map (snap s.mem dep)) fun v => (as.all (fun a => !hot dep a) || plain dep v) = true ∧ K v s := WB_v ft28 rfl as s K
theorem WB29 (s : St) (as : List AV) (K : AV → St → Prop) : WB ft 29 as s K = WV ft 29 (as.map (snap s.mem dep)) fun v => (as.all (fun a => !hot dep a) || plain dep v) = true ∧ K v s := WB_v ft29 rfl as s K
theorem WB30 (s : St) (as : List AV) (K : AV → St → Prop) : WB ft 30 as s K = WV ft 30 (as.map (snap s.mem dep)) fun v => (as.all (fun a => !hot dep a) || plain dep v) = true ∧ K v s := WB_v ft30 rfl as s K
theorem WB31 (s : St) (as : List AV) (K : AV → St → Prop) : WB ft 31 as s K = WV ft 31 (as.map (snap s.mem dep)) fun v => (as.all (fun a => !hot dep a) || plain dep v) = true ∧ K v s := WB_v ft31 rfl as s K
theorem WB32 (s : St) (as : List AV) (K : AV → St → Prop) : WB ft 32 as s K = WV ft 32 (as.map (snap s.mem dep)) fun v => (as.all (fun a => !hot dep a) || plain dep v) = true ∧ K v s := WB_v ft32 rfl as s K
theorem WB33 (s : St) (as : List AV) (K : AV → St → Prop) : WB ft 33 as s K = WV ft 33 (as.map (snap s.mem dep)) fun v => (as.all (fun a => !hot dep a) || plain dep v) = true ∧ K v s := WB_v ft33 rfl as s K
theorem WB34 (s : St) (as : List AV) (K : AV → St → Prop) : WB ft 34 as s K = WV ft 34 (as.map (snap s.mem dep)) fun v => (as.all (fun a => !hot dep a) || plain dep v) = true ∧ K v s := WB_v ft34 rfl as s K
theorem WB35 (s : St) (as : List AV) (K : AV → St → Prop) : WB ft 35 as s K = WV ft 35 (as.map (snap s.mem dep)) fun v => (as.all (fun a => !hot dep a) || plain dep v) = true ∧ K v s := WB_v ft35 rfl as s K
theorem WB36 (s : St) (as : List AV) (K : AV → St → Prop) : WB ft 36 as s K = WV ft 36 (as.map (snap s.mem dep)) fun v => (as.all (fun a => !hot dep a) || plain dep v) = true ∧ K v s := WB_v ft36 rfl as s K
theorem WB37 (s : St) (as : List AV) (K : AV → St → Prop) : WB ft 37 as s K = WV ft 37 (as.map (snap s.mem dep)) fun v => (as.all (fun a => !hot dep a) || plain dep v) = true ∧ K v s := WB_v ft37 rfl as s K
theorem WB38 (s : St) (as : List AV) (K : AV → St → Prop) : WB ft 38 as s K = WV ft 38 (as.map (snap s.mem dep)) fun v => (as.all (fun a => !hot dep a) || plain dep v) = true ∧ K v s := WB_v ft38 rfl as s K
theorem WB39 (s : St) (as : List AV) (K : AV → St → Prop) : WB ft 39 as s K = WV ft 39 (as.map (snap s.mem dep)) fun v => (as.all (fun a => !hot dep a) || plain dep v) = true ∧ K v s := WB_v ft39 rfl as s K
theorem WB40 (s : St) (as : List AV) (K : AV → St → Prop) : WB ft 40 as s K = WV ft 40 (as.map (snap s.mem dep)) fun v => (as.all (fun a => !hot dep a) || plain dep v) = true ∧ K v s := WB_v ft40 rfl as s K
theorem WB41 (s : St) (as : List AV) (K : AV → St → Prop) : WB ft 41 as s K = WV ft 41 (as.map (snap s.mem dep)) fun v => (as.all (fun a => !hot dep a) || plain dep v) = true ∧ K v s := WB_v ft41 rfl as s K
theorem WB42 (s : St) (as : List AV) (K : AV → St → Prop) : WB ft 42 as s K = WV ft 42 (as.map (snap s.mem dep)) fun v => (as.all (fun a => !hot dep a) || plain dep v) = true ∧ K v s := WB_v ft42 rfl as s K
theorem WB43 (s : St) (as : List AV) (K : AV → St → Prop) : WB ft 43 as s K = WV ft 43 (as.map (snap s.mem dep)) fun v => (as.all (fun a => !hot dep a) || plain dep v) = true ∧ K v s := WB_v ft43 rfl as s K
theorem WB44 (s : St) (as : List AV) (K : AV → St → Prop) : WB ft 44 as s K = WV ft 44 (as.map (snap s.mem dep)) fun v => (as.all (fun a => !hot dep a) || plain dep v) = true ∧ K v s := WB_v ft44 rfl as s K
theorem WB45 (s : St) (as : List AV) (K : AV → St → Prop) : WB ft 45 as s K = WV ft 45 (as.map (snap s.mem dep)) fun v => (as.all (fun a => !hot dep a) || plain dep v) = true ∧ K v s := WB_v ft45 rfl as s K
theorem WB46 (s : St) (as : List AV) (K : AV → St → Prop) : WB ft 46 as s K = WV ft 46 (as.map (snap s.mem dep)) fun v => (as.all (fun a => !hot dep a) || plain dep v) = true ∧ K v s := WB_v ft46 rfl as s K
theorem WB47 (s : St) (as : List AV) (K : AV → St → Prop) : WB ft 47 as s K = WV ft 47 (as.map (snap s.mem dep)) fun v => (as.all (fun a => !hot dep a) || plain dep v) = true ∧ K v s := WB_v ft47 rfl as s K
theorem WB48 (s : St) (as : List AV) (K : AV → St → Prop) : WB ft 48 as s K = WV ft 48 (as.map (snap s.mem dep)) fun v => (as.all (fun a => !hot dep a) || plain dep v) = true ∧ K v s := WB_v ft48 rfl as s K
theorem WB49 (s : St) (as : List AV) (K : AV → St → Prop) : WB ft 49 as s K = WV ft 49 (as.map (snap s.mem dep)) fun v => (as.all (fun a => !hot dep a) || plain dep v) = true ∧ K v s := WB_v ft49 rfl as s K
theorem WB50 (s : St) (as : List AV) (K : AV → St → Prop) : WB ft 50 as s K = WV ft 50 (as.map (snap s.mem dep)) fun v => (as.all (fun a => !hot dep a) || plain dep v) = true ∧ K v s := WB_v ft50 rfl as s K
theorem WB51 (s : St) (as : List AV) (K : AV → St → Prop) : WB ft 51 as s K = WV ft 51 (as.map (snap s.mem dep)) fun v => (as.all (fun a => !hot dep a) || plain dep v) = true ∧ K v s := WB_v ft51 rfl as s K
theorem WB52 (s : St) (as : List AV) (K : AV → St → Prop) : WB ft 52 as s K = WV ft 52 (as.map (snap s.mem dep)) fun v => (as.all (fun a => !hot dep a) || plain dep v) = true ∧ K v s := WB_v ft52 rfl as s K
theorem WB53 (s : St) (as : List AV) (K : AV → St → Prop) : WB ft 53 as s K = WV ft 53 (as.map (snap s.mem dep)) fun v => (as.all (fun a => !hot dep a) || plain dep v) = true ∧ K v s := WB_v ft53 rfl as s K
theorem WB54 (s : St) (as : List AV) (K : AV → St → Prop) : WB ft 54 as s K = WV ft 54 (as.map (snap s.mem dep)) fun v => (as.all (fun a => !hot dep a) || plain dep v) = true ∧ K v s := WB_v ft54 rfl as s K
theorem WB55 (s : St) (as : List AV) (K : AV → St → Prop) : WB ft 55 as s K = WV ft 55 (as.map (snap s.mem dep)) fun v => (as.all (fun a => !hot dep a) || plain dep v) = true ∧ K v s := WB_v ft55 rfl as s K
theorem WB56 (s : St) (as : List AV) (K : AV → St → Prop) : WB ft 56 as s K = WV ft 56 (as.map (snap s.mem dep)) fun v => (as.all (fun a => !hot dep a) || plain dep v) = true ∧ K v s := WB_v ft56 rfl as s K
theorem WB57 (s : St) (as : List AV) (K : AV → St → Prop) : WB ft 57 as s K = WV ft 57 (as.map (snap s.mem dep)) fun v => (as.all (fun a => !hot dep a) || plain dep v) = true ∧ K v s := WB_v ft57 rfl as s K
theorem WB58 (s : St) (as : List AV) (K : AV → St → Prop) : WB ft 58 as s K = WV ft 58 (as.map (snap s.mem dep)) fun v => (as.all (fun a => !hot dep a) || plain dep v) = true ∧ K v s := WB_v ft58 rfl as s K
theorem WB59 (s : St) (as : List AV) (K : AV → St → Prop) : WB ft 59 as s K = WV ft 59 (as.map (snap s.mem dep)) fun v => (as.all (fun a => !hot dep a) || plain dep v) = true ∧ K v s := WB_v ft59 rfl as s K
theorem WB60 (s : St) (as : List AV) (K : AV → St → Prop) : WB ft 60 as s K = WV ft 60 (as.map (snap s.mem dep)) fun v => (as.all (fun a => !hot dep a) || plain dep v) = true ∧ K v s := WB_v ft60 rfl as s K
theorem WB61 (s : St) (as : List AV) (K : AV → St → Prop) : WB ft 61 as s K = WV ft 61 (as.map (snap s.mem dep)) fun v => (as.all (fun a => !hot dep a) || plain dep v) = true ∧ K v s := WB_v ft61 rfl as s K
theorem WB62 (s : St) (as : List AV) (K : AV → St → Prop) : WB ft 62 as s K = WV ft 62 (as.map (snap s.mem dep)) fun v => (as.all (fun a => !hot dep a) || plain dep v) = true ∧ K v s := WB_v ft62 rfl as s K
theorem WB63 (s : St) (as : List AV) (K : AV → St → Prop) : WB ft 63 as s K = WV ft 63 (as.map (snap s.mem dep)) fun v => (as.all (fun a => !hot dep a) || plain dep v) = true ∧ K v s := WB_v ft63 rfl as s K
theorem WB64 (s : St) (as : List AV) (K : AV → St → Prop) : WB ft 64 as s K = WV ft 64 (as.map (snap s.mem dep)) fun v => (as.all (fun a => !hot dep a) || plain dep v) = true ∧ K v s := WB_v ft64 rfl as s K
theorem WB65 (s : St) (as : List AV) (K : AV → St → Prop) : WB ft 65 as s K = WV ft 65 (as.map (snap s.mem dep)) fun v => (as.all (fun a => !hot dep a) || plain dep v) = true ∧ K v s := WB_v ft65 rfl as s K
theorem WB66 (s : St) (as : List AV) (K : AV → St → Prop) : WB ft 66 as s K = WV ft 66 (as.map (snap s.mem dep)) fun v => (as.all (fun a => !hot dep a) || plain dep v) = true ∧ K v s := WB_v ft66 rfl as s K
theorem WB67 (s : St) (as : List AV) (K : AV → St → Prop) : WB ft 67 as s K = WV ft 67 (as.map (snap s.mem dep)) fun v => (as.all (fun a => !hot dep a) || plain dep v) = true ∧ K v s := WB_v ft67 rfl as s K
theorem WB68 (s : St) (as : List AV) (K : AV → St → Prop) : WB ft 68 as s K = WV ft 68 (as.map (snap s.mem dep)) fun v => (as.all (fun a => !hot dep a) || plain dep v) = true ∧ K v s := WB_v ft68 rfl as s K
theorem WB69 (s : St) (as : List AV) (K : AV → St → Prop) : WB ft 69 as s K = WV ft 69 (as.map (snap s.mem dep)) fun v => (as.all (fun a => !hot dep a) || plain dep v) = true ∧ K v s := WB_v ft69 rfl as s K
theorem WB70 (s : St) (as : List AV) (K : AV → St → Prop) : WB ft 70 as s K = WV ft 70 (as.map (snap s.mem dep)) fun v => (as.all (fun a => !hot dep a) || plain dep v) = true ∧ K v s := WB_v ft70 rfl as s K
theorem WB71 (s : St) (as : List AV) (K : AV → St → Prop) : WB ft 71 as s K = WV ft 71 (as.map (snap s.mem dep)) fun v => (as.all (fun a => !hot dep a) || plain dep v) = true ∧ K v s := WB_v ft71 rfl as s K
theorem WB72 (s : St) (as : List AV) (K : AV → St → Prop) : WB ft 72 as s K = WV ft 72 (as.map (snap s.mem dep)) fun v => (as.all (fun a => !hot dep a) || plain dep v) = true ∧ K v s := WB_v ft72 rfl as s K
theorem WB73 (s : St) (as : List AV) (K : AV → St → Prop) : WB ft 73 as s K = WV ft 73 (as.map (snap s.mem dep)) fun v => (as.all (fun a => !hot dep a) || plain dep v) = true ∧ K v s := WB_v ft73 rfl as s K
theorem WB74 (s : St) (as : List AV) (K : AV → St → Prop) : WB ft 74 as s K = WV ft 74 (as.map (snap s.mem dep)) fun v => (as.all (fun a => !hot dep a) || plain dep v) = true ∧ K v s := WB_v ft74 rfl as s K
theorem WB75 (s : St) (as : List AV) (K : AV → St → Prop) : WB ft 75 as s K = WV ft 75 (as.map (snap s.mem dep)) fun v => (as.all (fun a => !hot dep a) || plain dep v) = true ∧ K v s := WB_v ft75 rfl as s K
theorem WB76 (s : St) (as : List AV) (K : AV → St → Prop) : WB ft 76 as s K = WV ft 76 (as.map (snap s.mem dep)) fun v => (as.all (fun a => !hot dep a) || plain dep v) = true ∧ K v s := WB_v ft76 rfl as s K
theorem WB77 (s : St) (as : List AV) (K : AV → St → Prop) : WB ft 77 as s K = WV ft 77 (as.map (snap s.mem dep)) fun v => (as.all (fun a => !hot dep a) || plain dep v) = true ∧ K v s := WB_v ft77 rfl as s K
theorem WB78 (s : St) (as : List AV) (K : AV → St → Prop) : WB ft 78 as s K = WV ft 78 (as.map (snap s.mem dep)) fun v => (as.all (fun a => !hot dep a) || plain dep v) = true ∧ K v s := WB_v ft78 rfl as s K
theorem WB79 (s : St) (as : List AV) (K : AV → St → Prop) : WB ft 79 as s K = WV ft 79 (as.map (snap s.mem dep)) fun v => (as.all (fun a => !hot dep a) || plain dep v) = true ∧ K v s := WB_v ft79 rfl as s K
theorem WB80 (s : St) (as : List AV) (K : AV → St → Prop) : WB ft 80 as s K = WR ft (.f 80) as s.mem fun v m => K v (s.setMem m) := WB_r ft80 rfl as s K
theorem WB81 (s : St) (as : List AV) (K : AV → St → Prop) : WB ft 81 as s K = WV ft 81 (as.map (snap s.mem dep)) fun v => (as.all (fun a => !hot dep a) || plain dep v) = true ∧ K v s := WB_v ft81 rfl as s K
theorem WB82 (s : St) (as : List AV) (K : AV → St → Prop) : WB ft 82 as s K = WV ft 82 (as.map (snap s.mem dep)) fun v => (as.all (fun a => !hot dep a) || plain dep v) = true ∧ K v s := WB_v ft82 rfl as s K
theorem WB83 (s : St) (as : List AV) (K : AV → St → Prop) : WB ft 83 as s K = WV ft 83 (as.map (snap s.mem dep)) fun v => (as.all (fun a => !hot dep a) || plain dep v) = true ∧ K v s := WB_v ft83 rfl as s K
theorem WB84 (s : St) (as : List AV) (K : AV → St → Prop) : WB ft 84 as s K = WV ft 84 (as.map (snap s.mem dep)) fun v => (as.all (fun a => !hot dep a) || plain dep v) = true ∧ K v s := WB_v ft84 rfl as s K
theorem WB85 (s : St) (as : List AV) (K : AV → St → Prop) : WB ft 85 as s K = WV ft 85 (as.map (snap s.mem dep)) fun v => (as.all (fun a => !hot dep a) || plain dep v) = true ∧ K v s := WB_v ft85 rfl as s K
theorem WB86 (s : St) (as : List AV) (K : AV → St → Prop) : WB ft 86 as s K = WV ft 86 (as.map (snap s.mem dep)) fun v => (as.all (fun a => !hot dep a) || plain dep v) = true ∧ K v s := WB_v ft86 rfl as s K
theorem WB87 (s : St) (as : List AV) (K : AV → St → Prop) : WB ft 87 as s K = WR ft (.f 87) as s.mem fun v m => K v (s.setMem m) := WB_r ft87 rfl as s K
theorem WB88 (s : St) (as : List AV) (K : AV → St → Prop) : WB ft 88 as s K = WV ft 88 (as.map (snap s.mem dep)) fun v => (as.all (fun a => !hot dep a) || plain dep v) = true ∧ K v s := WB_v ft88 rfl as s K
theorem WB89 (s : St) (as : List AV) (K : AV → St → Prop) : WB ft 89 as s K = WV ft 89 (as.map (snap s.mem dep)) fun v => (as.all (fun a => !hot dep a) || plain dep v) = true ∧ K v s := WB_v ft89 rfl as s K
theorem WB90 (s : St) (as : List AV) (K : AV → St → Prop) : WB ft 90 as s K = WV ft 90 (as.map (snap s.mem dep)) fun v => (as.all (fun a => !hot dep a) || plain dep v) = true ∧ K v s := WB_v ft90 rfl as s K
theorem WB91 (s : St) (as : List AV) (K : AV → St → Prop) : WB ft 91 as s K = WR ft (.f 91) (as.map (snap s.mem dep)) .nil fun v m => (as.all (fun a => !hot dep a) || (ownly dep v && m.blks.all Blk.ownly)) = true ∧
      K (shift s.mem.blks.length s.mem.toks.length dep v) (s.setMem (joinMem s.mem m dep)) := WB_o ft91 rfl as s K
theorem WB92 (s : St) (as : List AV) (K : AV → St → Prop) : WB ft 92 as s K = WR ft (.f 92) as s.mem fun v m => K v (s.setMem m) := WB_r ft92 rfl as s K
theorem WB93 (s : St) (as : List AV) (K : AV → St → Prop) : WB ft 93 as s K = WR ft (.f 93) (as.map (snap s.mem dep)) .nil fun v m => (as.all (fun a => !hot dep a) || (ownly dep v && m.blks.all Blk.ownly)) = true ∧
      K (shift s.mem.blks.length s.mem.toks.length dep v) (s.setMem (joinMem s.mem m dep)) := WB_o ft93 rfl as s K
theorem WB94 (s : St) (as : List AV) (K : AV → St → Prop) : WB ft 94 as s K = WR ft (.f 94) as s.mem fun v m => K v (s.setMem m) := WB_r ft94 rfl as s K
theorem WB95 (s : St) (as : List AV) (K : AV → St → Prop) : WB ft 95 as s K = WV ft 95 (as.map (snap s.mem dep)) fun v => (as.all (fun a => !hot dep a) || plain dep v) = true ∧ K v s := WB_v ft95 rfl as s K
theorem WB96 (s : St) (as : List AV) (K : AV → St → Prop) : WB ft 96 as s K = WV ft 96 (as.map (snap s.mem dep)) fun v => (as.all (fun a => !hot dep a) || plain dep v) = true ∧ K v s := WB_v ft96 rfl as s K
theorem WB97 (s : St) (as : List AV) (K : AV → St → Prop) : WB ft 97 as s K = WV ft 97 (as.map (snap s.mem dep)) fun v => (as.all (fun a => !hot dep a) || plain dep v) = true ∧ K v s := WB_v ft97 rfl as s K
theorem WB98 (s : St) (as : List AV) (K : AV → St → Prop) : WB ft 98 as s K = WV ft 98 (as.map (snap s.mem dep)) fun v => (as.all (fun a => !hot dep a) || plain dep v) = true ∧ K v s := WB_v ft98 rfl as s K
theorem WB99 (s : St) (as : List AV) (K : AV → St → Prop) : WB ft 99 as s K = WV ft 99 (as.map (snap s.mem dep)) fun v => (as.all (fun a => !hot dep a) || plain dep v) = true ∧ K v s := WB_v ft99 rfl as s K
theorem WB100 (s : St) (as : List AV) (K : AV → St → Prop) : WB ft 100 as s K = WV ft 100 (as.map (snap s.mem dep)) fun v => (as.all (fun a => !hot dep a) || plain dep v) = true ∧ K v s := WB_v ft100 rfl as s K
theorem WB101 (s : St) (as : List AV) (K : AV → St → Prop) : WB ft 101 as s K = WV ft 101 (as.map (snap s.mem dep)) fun v => (as.all (fun a => !hot dep a) || plain dep v) = true ∧ K v s := WB_v ft101 rfl as s K
theorem WB102 (s : St) (as : List AV) (K : AV → St → Prop) : WB ft 102 as s K = WV ft 102 (as.map (snap s.mem dep)) fun v => (as.all (fun a => !hot dep a) || plain dep v) = true ∧ K v s := WB_v ft102 rfl as s K
theorem WB103 (s : St) (as : List AV) (K : AV → St → Prop) : WB ft 103 as s K = WR ft (.f 103) as s.mem fun v m => K v (s.setMem m) := WB_r ft103 rfl as s K
theorem WB104 (s : St) (as : List AV) (K : AV → St → Prop) : WB ft 104 as s K = WR ft (.f 104) as s.mem fun v m => K v (s.setMem m) := WB_r ft104 rfl as s K
theorem WF16 (s : St) (as : List AV) (K : AV → St → Prop) : WF ft 16 as s K = WV ft 16 (as.map (snap s.mem dep)) fun v => (as.all (fun a => !hot dep a) || plain dep v) = true ∧ K v s := WF_v ft16 as s K
end Go.Ab.T
end
