/-
  A part of the proofs over this seat.
  (The texts KwT KwW, one behind the other.)
-/
import Derived.Test.YtikfmbopfconkaaA0
set_option linter.unusedSimpArgs false
set_option linter.unusedVariables false
set_option linter.unusedSectionVars false
section
namespace Go.Ab.T
def c2 : ACode := .region [Ob 0 (.call 1 [])]
def r2 : List Res := []
def a2 : AFn := ⟨0, c2, r2,.v⟩

def c3 : ACode := .seq (.region [Ob 2 (.box (.t 0) 5),Ob 4 (.mov (.c (.bool false)))])
 (.seq (.seq (.region [Ob 15 (.load (.t 2) (some 5)),Ob 16 (.call 11 [(.t 15)]),Ob 17 (.mov (.t 16)),Og 18 17 false (.mov (.t 1)),Og 19 17 false (.len (.t 18)),Og 20 17 false (.bin .gtr (.t 19) (Ci 40)),Ob 21 (.pick (.t 17) (.c (.bool true)) (.t 20))])
 (.cond (.t 21) (.seq (.region [Ob 22 (.call 12 []),Ob 4 (.mov (.t 22))])
 (.ret))
 (.skip)))
 (.seq (.region [Ob 23 (.load (.t 2) (some 5)),Ob 24 (.callf 13 [(.t 23)]),Ob 25 (.lit false 3 1 []),Ob 26 (.mov (.t 1)),Ob 27 (.app false (.t 25) (.t 26) 3 1 8),Ob 5 (.new (.agg [(.int .i64 0), (.sl [] .tight), (.int .i64 0), (.sl [] .tight), (.sl [] .tight)]) 5),On (.store (.t 5) (.t 24) 5),Ob 6 (.mov (.t 27))])
 (.seq (.seq (.region [Ob 28 (.load (.t 5) (some 5)),Ob 29 (.call 14 [(.t 28)]),Ob 30 (.load (.t 2) (some 5)),Ob 31 (.call 15 [(.t 30)]),Ob 32 (.bin .neq (.t 29) (.t 31))])
 (.cond (.t 32) (.seq (.region [Ob 4 (.mov (.c (.bool false)))])
 (.ret))
 (.skip)))
 (.seq (.region [Ob 34 (.load (.t 5) (some 5)),Ob 35 (.mov (.t 6)),Ob 36 (.call 16 [(.t 34), (.t 35)]),Ob 33 (.mov (.t 36)),Ob 37 (.ext (.t 33) 0),Ob 38 (.ext (.t 33) 1),Ob 7 (.mov (.t 37)),Ob 8 (.mov (.t 38))])
 (.seq (.region [Ob 40 (.load (.t 2) (some 5)),Ob 41 (.mov (.t 1)),Ob 42 (.call 17 [(.t 40), (.t 41)]),Ob 39 (.mov (.t 42)),Ob 43 (.ext (.t 39) 0),Ob 44 (.ext (.t 39) 1),Ob 9 (.mov (.t 43)),Ob 10 (.mov (.t 44))])
 (.seq (.region [Ob 46 (.load (.t 5) (some 5)),Ob 47 (.mov (.t 6)),Ob 48 (.call 18 [(.t 46), (.t 47)]),Ob 45 (.mov (.t 48)),Ob 49 (.ext (.t 45) 0),Ob 50 (.ext (.t 45) 1),Ob 11 (.mov (.t 49)),Ob 12 (.mov (.t 50))])
 (.seq (.region [Ob 52 (.load (.t 2) (some 5)),Ob 53 (.mov (.t 1)),Ob 54 (.call 19 [(.t 52), (.t 53)]),Ob 51 (.mov (.t 54)),Ob 55 (.ext (.t 51) 0),Ob 56 (.ext (.t 51) 1),Ob 13 (.mov (.t 55)),Ob 14 (.mov (.t 56))])
 (.seq (.region [Ob 57 (.mov (.t 7)),Ob 58 (.mov (.t 9)),Ob 59 (.call 20 [(.t 57), (.t 58)]),Ob 60 (.mov (.t 59)),Og 61 60 true (.mov (.t 8)),Og 62 60 true (.mov (.t 10)),Og 63 60 true (.bin .eql (.t 61) (.t 62)),Ob 64 (.pick (.t 60) (.t 63) (.c (.bool false))),Ob 65 (.mov (.t 64)),Og 66 65 true (.mov (.t 11)),Og 67 65 true (.mov (.t 13)),Og 68 65 true (.bin .eql (.t 66) (.t 67)),Ob 69 (.pick (.t 65) (.t 68) (.c (.bool false))),Ob 70 (.mov (.t 69)),Og 71 70 true (.mov (.t 12)),Og 72 70 true (.mov (.t 14)),Og 73 70 true (.bin .eql (.t 71) (.t 72)),Ob 74 (.pick (.t 70) (.t 73) (.c (.bool false))),Ob 75 (.mov (.t 74)),Og 76 75 true (.mov (.t 6)),Og 77 75 true (.mov (.t 1)),Og 78 75 true (.call 20 [(.t 76), (.t 77)]),Ob 79 (.pick (.t 75) (.t 78) (.c (.bool false))),Ob 80 (.mov (.t 79)),Og 81 80 true (.addr (.t 5) 1),Og 82 80 true (.load (.t 81) none),Og 83 80 true (.addr (.t 2) 1),Og 84 80 true (.load (.t 83) none),Og 85 80 true (.call 20 [(.t 82), (.t 84)]),Ob 86 (.pick (.t 80) (.t 85) (.c (.bool false))),Ob 87 (.mov (.t 86)),Og 88 87 true (.call 12 []),Ob 89 (.pick (.t 87) (.t 88) (.c (.bool false))),Ob 4 (.mov (.t 89))])
 (.ret)))))))))
def r3 : List Res := [.t 4]
def a3 : AFn := ⟨2, c3, r3,.v⟩

def c4 : ACode := .seq (.region [Ob 2 (.box (.t 0) 5),Ob 4 (.mov (.c (.bool false)))])
 (.seq (.seq (.region [Ob 18 (.load (.t 2) (some 5)),Ob 19 (.call 11 [(.t 18)]),Ob 20 (.mov (.t 19)),Og 21 20 false (.load (.t 2) (some 5)),Og 22 20 false (.call 21 [(.t 21)]),Ob 23 (.pick (.t 20) (.c (.bool true)) (.t 22))])
 (.cond (.t 23) (.seq (.region [Ob 24 (.call 12 []),Ob 4 (.mov (.t 24))])
 (.ret))
 (.skip)))
 (.seq (.region [Ob 25 (.load (.t 2) (some 5)),Ob 26 (.callf 13 [(.t 25)]),Ob 5 (.new (.agg [(.int .i64 0), (.sl [] .tight), (.int .i64 0), (.sl [] .tight), (.sl [] .tight)]) 5),On (.store (.t 5) (.t 26) 5)])
 (.seq (.region [Ob 28 (.load (.t 5) (some 5)),Ob 29 (.call 22 [(.t 28)]),Ob 27 (.mov (.t 29)),Ob 30 (.ext (.t 27) 0),Ob 31 (.ext (.t 27) 1),Ob 6 (.mov (.t 30)),Ob 7 (.mov (.t 31))])
 (.seq (.region [Ob 33 (.load (.t 2) (some 5)),Ob 34 (.call 23 [(.t 33)]),Ob 32 (.mov (.t 34)),Ob 35 (.ext (.t 32) 0),Ob 36 (.ext (.t 32) 1),Ob 8 (.mov (.t 35)),Ob 9 (.mov (.t 36))])
 (.seq (.region [Ob 38 (.load (.t 5) (some 5)),Ob 39 (.call 24 [(.t 38)]),Ob 37 (.mov (.t 39)),Ob 40 (.ext (.t 37) 0),Ob 41 (.ext (.t 37) 1),Ob 10 (.mov (.t 40)),Ob 11 (.mov (.t 41))])
 (.seq (.region [Ob 43 (.load (.t 2) (some 5)),Ob 44 (.call 25 [(.t 43)]),Ob 42 (.mov (.t 44)),Ob 45 (.ext (.t 42) 0),Ob 46 (.ext (.t 42) 1),Ob 12 (.mov (.t 45)),Ob 13 (.mov (.t 46))])
 (.seq (.region [Ob 48 (.load (.t 5) (some 5)),Ob 49 (.mov (.t 1)),Ob 50 (.call 26 [(.t 48), (.t 49)]),Ob 47 (.mov (.t 50)),Ob 51 (.ext (.t 47) 0),Ob 52 (.ext (.t 47) 1),Ob 14 (.mov (.t 51)),Ob 15 (.mov (.t 52))])
 (.seq (.region [Ob 54 (.load (.t 2) (some 5)),Ob 55 (.mov (.t 1)),Ob 56 (.call 27 [(.t 54), (.t 55)]),Ob 53 (.mov (.t 56)),Ob 57 (.ext (.t 53) 0),Ob 58 (.ext (.t 53) 1),Ob 16 (.mov (.t 57)),Ob 17 (.mov (.t 58))])
 (.seq (.region [Ob 59 (.mov (.t 6)),Ob 60 (.mov (.t 8)),Ob 61 (.bin .eql (.t 59) (.t 60)),Ob 62 (.mov (.t 61)),Og 63 62 true (.mov (.t 7)),Og 64 62 true (.mov (.t 9)),Og 65 62 true (.bin .eql (.t 63) (.t 64)),Ob 66 (.pick (.t 62) (.t 65) (.c (.bool false))),Ob 67 (.mov (.t 66)),Og 68 67 true (.mov (.t 10)),Og 69 67 true (.mov (.t 12)),Og 70 67 true (.call 20 [(.t 68), (.t 69)]),Ob 71 (.pick (.t 67) (.t 70) (.c (.bool false))),Ob 72 (.mov (.t 71)),Og 73 72 true (.mov (.t 11)),Og 74 72 true (.mov (.t 13)),Og 75 72 true (.bin .eql (.t 73) (.t 74)),Ob 76 (.pick (.t 72) (.t 75) (.c (.bool false))),Ob 77 (.mov (.t 76)),Og 78 77 true (.mov (.t 14)),Og 79 77 true (.mov (.t 16)),Og 80 77 true (.bin .eql (.t 78) (.t 79)),Ob 81 (.pick (.t 77) (.t 80) (.c (.bool false))),Ob 82 (.mov (.t 81)),Og 83 82 true (.mov (.t 15)),Og 84 82 true (.mov (.t 17)),Og 85 82 true (.bin .eql (.t 83) (.t 84)),Ob 86 (.pick (.t 82) (.t 85) (.c (.bool false))),Ob 87 (.mov (.t 86)),Og 88 87 true (.call 12 []),Ob 89 (.pick (.t 87) (.t 88) (.c (.bool false))),Ob 4 (.mov (.t 89))])
 (.ret))))))))))
def r4 : List Res := [.t 4]
def a4 : AFn := ⟨2, c4, r4,.v⟩

def c5 : ACode := .seq (.region [Ob 1 (.box (.t 0) 5),Ob 2 (.mov (.c (.bool false)))])
 (.seq (.seq (.region [Ob 11 (.load (.t 1) (some 5)),Ob 12 (.call 11 [(.t 11)]),Ob 13 (.mov (.t 12)),Og 14 13 false (.load (.t 1) (some 5)),Og 15 13 false (.call 21 [(.t 14)]),Ob 16 (.pick (.t 13) (.c (.bool true)) (.t 15))])
 (.cond (.t 16) (.seq (.region [Ob 17 (.call 12 []),Ob 2 (.mov (.t 17))])
 (.ret))
 (.skip)))
 (.seq (.region [Ob 19 (.load (.t 1) (some 5)),Ob 20 (.callf 13 [(.t 19)]),Ob 21 (.call 28 [(.t 20)]),Ob 18 (.mov (.t 21)),Ob 22 (.ext (.t 18) 0),Ob 23 (.ext (.t 18) 1),Ob 3 (.mov (.t 22)),Ob 4 (.mov (.t 23))])
 (.seq (.region [Ob 25 (.load (.t 1) (some 5)),Ob 26 (.call 23 [(.t 25)]),Ob 24 (.mov (.t 26)),Ob 27 (.ext (.t 24) 0),Ob 28 (.ext (.t 24) 1),Ob 5 (.mov (.t 27)),Ob 6 (.mov (.t 28))])
 (.seq (.seq (.region [Ob 29 (.mov (.t 4)),Ob 30 (.mov (.t 6)),Ob 31 (.bin .neq (.t 29) (.t 30)),Ob 32 (.mov (.t 31)),Og 33 32 false (.mov (.t 4)),Og 34 32 false (.bin .neq (.t 33) (Ci 0)),Og 35 32 false (.mov (.t 34)),Og 36 35 true (.mov (.t 3)),Og 37 35 true (.len (.t 36)),Og 38 35 true (.bin .gtr (.t 37) (Ci 0)),Og 39 32 false (.pick (.t 35) (.t 38) (.c (.bool false))),Ob 40 (.pick (.t 32) (.c (.bool true)) (.t 39))])
 (.cond (.t 40) (.seq (.region [Ob 2 (.mov (.c (.bool false)))])
 (.ret))
 (.skip)))
 (.seq (.seq (.region [Ob 41 (.mov (.t 4)),Ob 42 (.bin .neq (.t 41) (Ci 0))])
 (.cond (.t 42) (.seq (.region [Ob 43 (.call 12 []),Ob 2 (.mov (.t 43))])
 (.ret))
 (.skip)))
 (.seq (.seq (.region [Ob 44 (.mov (.t 3)),Ob 45 (.len (.t 44)),Ob 46 (.bin .gtr (.t 45) (Ci 40)),Ob 47 (.mov (.t 46)),Og 48 47 false (.load (.t 1) (some 5)),Og 49 47 false (.mov (.t 3)),Og 50 47 false (.call 29 [(.t 48), (.t 49)]),Og 51 47 false (.not (.t 50)),Ob 52 (.pick (.t 47) (.c (.bool true)) (.t 51))])
 (.cond (.t 52) (.seq (.region [Ob 2 (.mov (.c (.bool false)))])
 (.ret))
 (.skip)))
 (.seq (.region [Ob 54 (.load (.t 1) (some 5)),Ob 55 (.mov (.t 3)),Ob 56 (.call 17 [(.t 54), (.t 55)]),Ob 53 (.mov (.t 56)),Ob 57 (.ext (.t 53) 0),Ob 58 (.ext (.t 53) 1),Ob 7 (.mov (.t 57)),Ob 8 (.mov (.t 58))])
 (.seq (.region [Ob 60 (.load (.t 1) (some 5)),Ob 61 (.mov (.t 3)),Ob 62 (.call 19 [(.t 60), (.t 61)]),Ob 59 (.mov (.t 62)),Ob 63 (.ext (.t 59) 0),Ob 64 (.ext (.t 59) 1),Ob 9 (.mov (.t 63)),Ob 10 (.mov (.t 64))])
 (.seq (.region [Ob 65 (.mov (.t 8)),Ob 66 (.bin .eql (.t 65) (Ci 0)),Ob 67 (.mov (.t 66)),Og 68 67 true (.mov (.t 10)),Og 69 67 true (.bin .eql (.t 68) (Ci 0)),Ob 70 (.pick (.t 67) (.t 69) (.c (.bool false))),Ob 71 (.mov (.t 70)),Og 72 71 true (.mov (.t 7)),Og 73 71 true (.len (.t 72)),Og 74 71 true (.bin .eql (.t 73) (Ci 0)),Ob 75 (.pick (.t 71) (.t 74) (.c (.bool false))),Ob 76 (.mov (.t 75)),Og 77 76 true (.mov (.t 9)),Og 78 76 true (.mov (.t 5)),Og 79 76 true (.bin .eql (.t 77) (.t 78)),Ob 80 (.pick (.t 76) (.t 79) (.c (.bool false))),Ob 81 (.mov (.t 80)),Og 82 81 true (.call 12 []),Ob 83 (.pick (.t 81) (.t 82) (.c (.bool false))),Ob 2 (.mov (.t 83))])
 (.ret))))))))))
def r5 : List Res := [.t 2]
def a5 : AFn := ⟨1, c5, r5,.v⟩

def c6 : ACode := .seq (.region [Ob 2 (.box (.t 0) 5),Ob 4 (.mov (.c (.bool false)))])
 (.seq (.seq (.region [Ob 17 (.load (.t 2) (some 5)),Ob 18 (.call 30 [(.t 17)]),Ob 19 (.not (.t 18)),Ob 20 (.mov (.t 19)),Og 21 20 false (.load (.t 2) (some 5)),Og 22 20 false (.mov (.t 1)),Og 23 20 false (.call 29 [(.t 21), (.t 22)]),Og 24 20 false (.not (.t 23)),Ob 25 (.pick (.t 20) (.c (.bool true)) (.t 24))])
 (.cond (.t 25) (.seq (.region [Ob 26 (.call 12 []),Ob 4 (.mov (.t 26))])
 (.ret))
 (.skip)))
 (.seq (.region [Ob 28 (.load (.t 2) (some 5)),Ob 29 (.call 22 [(.t 28)]),Ob 27 (.mov (.t 29)),Ob 30 (.ext (.t 27) 0),Ob 31 (.ext (.t 27) 1),Ob 5 (.mov (.t 30)),Ob 6 (.mov (.t 31))])
 (.seq (.region [Ob 33 (.load (.t 2) (some 5)),Ob 34 (.call 28 [(.t 33)]),Ob 32 (.mov (.t 34)),Ob 35 (.ext (.t 32) 0),Ob 36 (.ext (.t 32) 1),Ob 7 (.mov (.t 35)),Ob 8 (.mov (.t 36))])
 (.seq (.region [Ob 38 (.load (.t 2) (some 5)),Ob 39 (.mov (.t 1)),Ob 40 (.call 16 [(.t 38), (.t 39)]),Ob 37 (.mov (.t 40)),Ob 41 (.ext (.t 37) 0),Ob 42 (.ext (.t 37) 1),Ob 9 (.mov (.t 41)),Ob 10 (.mov (.t 42))])
 (.seq (.region [Ob 44 (.load (.t 2) (some 5)),Ob 45 (.mov (.t 1)),Ob 46 (.call 18 [(.t 44), (.t 45)]),Ob 43 (.mov (.t 46)),Ob 47 (.ext (.t 43) 0),Ob 48 (.ext (.t 43) 1),Ob 11 (.mov (.t 47)),Ob 12 (.mov (.t 48))])
 (.seq (.seq (.region [Ob 49 (.mov (.t 6)),Ob 50 (.mov (.t 8)),Ob 51 (.bin .neq (.t 49) (.t 50)),Ob 52 (.mov (.t 51)),Og 53 52 false (.mov (.t 10)),Og 54 52 false (.bin .neq (.t 53) (Ci 0)),Ob 55 (.pick (.t 52) (.c (.bool true)) (.t 54)),Ob 56 (.mov (.t 55)),Og 57 56 false (.mov (.t 12)),Og 58 56 false (.bin .neq (.t 57) (Ci 0)),Ob 59 (.pick (.t 56) (.c (.bool true)) (.t 58)),Ob 60 (.mov (.t 59)),Og 61 60 false (.mov (.t 11)),Og 62 60 false (.bin .lss (.t 61) (Ci 0)),Ob 63 (.pick (.t 60) (.c (.bool true)) (.t 62))])
 (.cond (.t 63) (.seq (.region [Ob 4 (.mov (.c (.bool false)))])
 (.ret))
 (.skip)))
 (.seq (.seq (.region [Ob 64 (.mov (.t 6)),Ob 65 (.bin .eql (.t 64) (Ci 3))])
 (.cond (.t 65) (.seq (.region [Ob 66 (.mov (.t 9)),Ob 67 (.len (.t 66)),Ob 68 (.bin .gtr (.t 67) (Ci 0)),Ob 69 (.mov (.t 68)),Og 70 69 true (.call 12 []),Ob 71 (.pick (.t 69) (.t 70) (.c (.bool false))),Ob 4 (.mov (.t 71))])
 (.ret))
 (.skip)))
 (.seq (.seq (.region [Ob 72 (.mov (.t 6)),Ob 73 (.bin .neq (.t 72) (Ci 0)),Ob 74 (.mov (.t 73)),Og 75 74 false (.load (.t 2) (some 5)),Og 76 74 false (.mov (.t 7)),Og 77 74 false (.call 29 [(.t 75), (.t 76)]),Og 78 74 false (.not (.t 77)),Ob 79 (.pick (.t 74) (.c (.bool true)) (.t 78)),Ob 80 (.mov (.t 79)),Og 81 80 false (.mov (.t 9)),Og 82 80 false (.len (.t 81)),Og 83 80 false (.bin .eql (.t 82) (Ci 0)),Og 84 80 false (.mov (.t 83)),Og 85 84 true (.mov (.t 11)),Og 86 84 true (.mov (.t 5)),Og 87 84 true (.bin .gtr (.t 85) (.t 86)),Og 88 80 false (.pick (.t 84) (.t 87) (.c (.bool false))),Ob 89 (.pick (.t 80) (.c (.bool true)) (.t 88))])
 (.cond (.t 89) (.seq (.region [Ob 4 (.mov (.c (.bool false)))])
 (.ret))
 (.skip)))
 (.seq (.region [Ob 91 (.load (.t 2) (some 5)),Ob 92 (.mov (.t 7)),Ob 93 (.call 16 [(.t 91), (.t 92)]),Ob 90 (.mov (.t 93)),Ob 94 (.ext (.t 90) 0),Ob 95 (.ext (.t 90) 1),Ob 13 (.mov (.t 94)),Ob 14 (.mov (.t 95))])
 (.seq (.region [Ob 97 (.load (.t 2) (some 5)),Ob 98 (.mov (.t 7)),Ob 99 (.call 18 [(.t 97), (.t 98)]),Ob 96 (.mov (.t 99)),Ob 100 (.ext (.t 96) 0),Ob 101 (.ext (.t 96) 1),Ob 15 (.mov (.t 100)),Ob 16 (.mov (.t 101))])
 (.seq (.region [Ob 102 (.mov (.t 14)),Ob 103 (.bin .eql (.t 102) (Ci 0)),Ob 104 (.mov (.t 103)),Og 105 104 true (.mov (.t 16)),Og 106 104 true (.bin .eql (.t 105) (Ci 0)),Ob 107 (.pick (.t 104) (.t 106) (.c (.bool false))),Ob 108 (.mov (.t 107)),Og 109 108 true (.mov (.t 13)),Og 110 108 true (.len (.t 109)),Og 111 108 true (.bin .eql (.t 110) (Ci 0)),Ob 112 (.pick (.t 108) (.t 111) (.c (.bool false))),Ob 113 (.mov (.t 112)),Og 114 113 true (.mov (.t 15)),Og 115 113 true (.mov (.t 5)),Og 116 113 true (.bin .eql (.t 114) (.t 115)),Ob 117 (.pick (.t 113) (.t 116) (.c (.bool false))),Ob 118 (.mov (.t 117)),Og 119 118 true (.call 12 []),Ob 120 (.pick (.t 118) (.t 119) (.c (.bool false))),Ob 4 (.mov (.t 120))])
 (.ret))))))))))))
def r6 : List Res := [.t 4]
def a6 : AFn := ⟨2, c6, r6,.v⟩

def c7 : ACode := .seq (.region [Ob 2 (.box (.t 0) 5),Ob 4 (.mov (.c (.bool false)))])
 (.seq (.seq (.region [Ob 19 (.load (.t 2) (some 5)),Ob 20 (.call 30 [(.t 19)]),Ob 21 (.not (.t 20))])
 (.cond (.t 21) (.seq (.region [Ob 22 (.call 12 []),Ob 4 (.mov (.t 22))])
 (.ret))
 (.skip)))
 (.seq (.region [Ob 24 (.load (.t 2) (some 5)),Ob 25 (.call 24 [(.t 24)]),Ob 23 (.mov (.t 25)),Ob 26 (.ext (.t 23) 0),Ob 27 (.ext (.t 23) 1),Ob 5 (.mov (.t 26)),Ob 6 (.mov (.t 27))])
 (.seq (.region [Ob 29 (.load (.t 2) (some 5)),Ob 30 (.call 22 [(.t 29)]),Ob 28 (.mov (.t 30)),Ob 31 (.ext (.t 28) 0),Ob 32 (.ext (.t 28) 1),Ob 7 (.mov (.t 31)),Ob 8 (.mov (.t 32))])
 (.seq (.seq (.region [Ob 33 (.mov (.t 6)),Ob 34 (.bin .eql (.t 33) (Ci 3))])
 (.cond (.t 34) (.seq (.region [Ob 35 (.mov (.t 8)),Ob 36 (.bin .eql (.t 35) (Ci 0)),Ob 37 (.mov (.t 36)),Og 38 37 true (.mov (.t 5)),Og 39 37 true (.len (.t 38)),Og 40 37 true (.bin .eql (.t 39) (Ci 0)),Ob 41 (.pick (.t 37) (.t 40) (.c (.bool false))),Ob 42 (.mov (.t 41)),Og 43 42 true (.call 12 []),Ob 44 (.pick (.t 42) (.t 43) (.c (.bool false))),Ob 4 (.mov (.t 44))])
 (.ret))
 (.skip)))
 (.seq (.seq (.region [Ob 45 (.mov (.t 6)),Ob 46 (.bin .neq (.t 45) (Ci 0)),Ob 47 (.mov (.t 46)),Og 48 47 false (.mov (.t 8)),Og 49 47 false (.bin .neq (.t 48) (Ci 3)),Ob 50 (.pick (.t 47) (.c (.bool true)) (.t 49)),Ob 51 (.mov (.t 50)),Og 52 51 false (.mov (.t 5)),Og 53 51 false (.len (.t 52)),Og 54 51 false (.bin .eql (.t 53) (Ci 0)),Ob 55 (.pick (.t 51) (.c (.bool true)) (.t 54)),Ob 56 (.mov (.t 55)),Og 57 56 false (.mov (.t 5)),Og 58 56 false (.len (.t 57)),Og 59 56 false (.addr (.t 2) 4),Og 60 56 false (.load (.t 59) none),Og 61 56 false (.len (.t 60)),Og 62 56 false (.bin .gtr (.t 58) (.t 61)),Ob 63 (.pick (.t 56) (.c (.bool true)) (.t 62))])
 (.cond (.t 63) (.seq (.region [Ob 4 (.mov (.c (.bool false)))])
 (.ret))
 (.skip)))
 (.seq (.seq (.region [Ob 9 (.mov (Ci 0))])
 (.block 0 (.loop (.seq (.seq (.region [Ob 64 (.mov (.t 9)),Ob 65 (.mov (.t 5)),Ob 66 (.len (.t 65)),Ob 67 (.bin .lss (.t 64) (.t 66))])
 (.cond (.t 67) (.skip)
 (.exit 0)))
 (.seq (.block 1 (.seq (.region [Ob 70 (.mov (.t 5)),Ob 71 (.mov (.t 9)),Ob 72 (.idx (.t 70) (.t 71) 1),Ob 73 (.load (.t 72) none),Ob 74 (.bin .lss (.t 73) (Ci 0)),Ob 75 (.mov (.t 74)),Og 76 75 false (.mov (.t 5)),Og 77 75 false (.mov (.t 9)),Og 78 75 false (.idx (.t 76) (.t 77) 1),Og 79 75 false (.load (.t 78) none),Og 80 75 false (.addr (.t 2) 4),Og 81 75 false (.load (.t 80) none),Og 82 75 false (.len (.t 81)),Og 83 75 false (.bin .geq (.t 79) (.t 82)),Ob 84 (.pick (.t 75) (.c (.bool true)) (.t 83)),Ob 85 (.mov (.t 84)),Og 86 85 false (.mov (.t 9)),Og 87 85 false (.bin .gtr (.t 86) (Ci 0)),Og 88 85 false (.mov (.t 87)),Og 89 88 true (.mov (.t 5)),Og 90 88 true (.mov (.t 9)),Og 91 88 true (.idx (.t 89) (.t 90) 1),Og 92 88 true (.load (.t 91) none),Og 93 88 true (.mov (.t 5)),Og 94 88 true (.mov (.t 9)),Og 95 88 true (.bin .sub (.t 94) (Ci 1)),Og 96 88 true (.idx (.t 93) (.t 95) 1),Og 97 88 true (.load (.t 96) none),Og 98 88 true (.bin .leq (.t 92) (.t 97)),Og 99 85 false (.pick (.t 88) (.t 98) (.c (.bool false))),Ob 100 (.pick (.t 85) (.c (.bool true)) (.t 99))])
 (.cond (.t 100) (.seq (.region [Ob 4 (.mov (.c (.bool false)))])
 (.ret))
 (.skip))))
 (.region [Ob 68 (.mov (.t 9)),Ob 69 (.bin .add (.t 68) (Ci 1)),Ob 9 (.mov (.t 69))]))))))
 (.seq (.seq (.region [Ob 102 (.load (.t 2) (some 5)),Ob 103 (.mov (.t 5)),Ob 104 (.call 31 [(.t 102), (.t 103)]),Ob 105 (.call 22 [(.t 104)]),Ob 101 (.mov (.t 105)),Ob 106 (.ext (.t 101) 0),Ob 107 (.ext (.t 101) 1),Ob 10 (.mov (.t 106)),Ob 11 (.mov (.t 107))])
 (.seq (.region [Ob 108 (.mov (.t 11)),Ob 109 (.bin .neq (.t 108) (Ci 3))])
 (.cond (.t 109) (.seq (.region [Ob 4 (.mov (.c (.bool false)))])
 (.ret))
 (.skip))))
 (.seq (.seq (.region [Ob 12 (.mov (Ci 0))])
 (.block 2 (.loop (.seq (.seq (.region [Ob 110 (.mov (.t 12)),Ob 111 (.mov (.t 5)),Ob 112 (.len (.t 111)),Ob 113 (.bin .lss (.t 110) (.t 112))])
 (.cond (.t 113) (.skip)
 (.exit 2)))
 (.seq (.block 3 (.seq (.regionD [Ob 117 (.load (.t 2) (some 5)),Ob 118 (.lit false 3 1 []),Ob 119 (.mov (.t 5)),Ob 120 (.mov (.t 12)),Ob 121 (.slice (.t 119) none (some (.t 120)) 1),Ob 123 (.mov (.t 5)),Ob 124 (.mov (.t 12)),Ob 125 (.bin .add (.t 124) (Ci 1)),Ob 126 (.slice (.t 123) (some (.t 125)) none 1),Ob 122 (.app0 (.t 118) (.t 121) 3 1 8),Ob 127 (.app true (.t 122) (.t 126) 3 1 8),Ob 128 (.call 31 [(.t 117), (.t 127)]),Ob 129 (.call 22 [(.t 128)]),Ob 116 (.mov (.t 129)),Ob 130 (.ext (.t 116) 0),Ob 131 (.ext (.t 116) 1),Ob 13 (.mov (.t 130)),Ob 14 (.mov (.t 131))] [(2, 122)])
 (.seq (.region [Ob 132 (.mov (.t 14)),Ob 133 (.bin .neq (.t 132) (Ci 0))])
 (.cond (.t 133) (.seq (.region [Ob 4 (.mov (.c (.bool false)))])
 (.ret))
 (.skip)))))
 (.region [Ob 114 (.mov (.t 12)),Ob 115 (.bin .add (.t 114) (Ci 1)),Ob 12 (.mov (.t 115))]))))))
 (.seq (.seq (.region [Ob 134 (.load (.t 2) (some 5)),Ob 135 (.mov (.t 1)),Ob 136 (.call 29 [(.t 134), (.t 135)]),Ob 137 (.not (.t 136))])
 (.cond (.t 137) (.seq (.region [Ob 138 (.call 12 []),Ob 4 (.mov (.t 138))])
 (.ret))
 (.skip)))
 (.seq (.region [Ob 140 (.load (.t 2) (some 5)),Ob 141 (.mov (.t 1)),Ob 142 (.call 16 [(.t 140), (.t 141)]),Ob 139 (.mov (.t 142)),Ob 143 (.ext (.t 139) 0),Ob 144 (.ext (.t 139) 1),Ob 15 (.mov (.t 143)),Ob 16 (.mov (.t 144))])
 (.seq (.seq (.region [Ob 17 (.mov (Ci 0))])
 (.block 4 (.loop (.seq (.seq (.region [Ob 145 (.mov (.t 17)),Ob 146 (.mov (.t 15)),Ob 147 (.len (.t 146)),Ob 148 (.bin .lss (.t 145) (.t 147))])
 (.cond (.t 148) (.skip)
 (.exit 4)))
 (.seq (.block 5 (.seq (.region [Ob 18 (.mov (Ci 0))])
 (.block 6 (.loop (.seq (.seq (.region [Ob 151 (.mov (.t 18)),Ob 152 (.mov (.t 5)),Ob 153 (.len (.t 152)),Ob 154 (.bin .lss (.t 151) (.t 153))])
 (.cond (.t 154) (.skip)
 (.exit 6)))
 (.seq (.block 7 (.seq (.region [Ob 157 (.mov (.t 15)),Ob 158 (.mov (.t 17)),Ob 159 (.idx (.t 157) (.t 158) 1),Ob 160 (.load (.t 159) none),Ob 161 (.mov (.t 5)),Ob 162 (.mov (.t 18)),Ob 163 (.idx (.t 161) (.t 162) 1),Ob 164 (.load (.t 163) none),Ob 165 (.bin .eql (.t 160) (.t 164))])
 (.cond (.t 165) (.seq (.region [Ob 166 (.mov (.t 16)),Ob 167 (.bin .eql (.t 166) (Ci 0)),Ob 168 (.mov (.t 167)),Og 169 168 true (.call 12 []),Ob 170 (.pick (.t 168) (.t 169) (.c (.bool false))),Ob 4 (.mov (.t 170))])
 (.ret))
 (.skip))))
 (.region [Ob 155 (.mov (.t 18)),Ob 156 (.bin .add (.t 155) (Ci 1)),Ob 18 (.mov (.t 156))])))))))
 (.region [Ob 149 (.mov (.t 17)),Ob 150 (.bin .add (.t 149) (Ci 1)),Ob 17 (.mov (.t 150))]))))))
 (.seq (.region [Ob 4 (.mov (.c (.bool false)))])
 (.ret)))))))))))))
def r7 : List Res := [.t 4]
def a7 : AFn := ⟨2, c7, r7,.v⟩

def c8 : ACode := .seq (.region [Ob 2 (.box (.t 0) 5),Ob 3 (.box (.t 1) 4),Ob 4 (.mov (.c (.bool false)))])
 (.seq (.seq (.region [Ob 15 (.load (.t 2) (some 5)),Ob 16 (.call 30 [(.t 15)]),Ob 17 (.not (.t 16)),Ob 18 (.mov (.t 17)),Og 19 18 false (.addr (.t 3) 0),Og 20 18 false (.load (.t 19) none),Og 21 18 false (.bin .lss (.t 20) (Ci 0)),Ob 22 (.pick (.t 18) (.c (.bool true)) (.t 21)),Ob 23 (.mov (.t 22)),Og 24 23 false (.addr (.t 3) 0),Og 25 23 false (.load (.t 24) none),Og 26 23 false (.addr (.t 2) 4),Og 27 23 false (.load (.t 26) none),Og 28 23 false (.len (.t 27)),Og 29 23 false (.bin .geq (.t 25) (.t 28)),Ob 30 (.pick (.t 23) (.c (.bool true)) (.t 29)),Ob 31 (.mov (.t 30)),Og 32 31 false (.addr (.t 3) 1),Og 33 31 false (.load (.t 32) none),Og 34 31 false (.bin .lss (.t 33) (Ci 0)),Ob 35 (.pick (.t 31) (.c (.bool true)) (.t 34)),Ob 36 (.mov (.t 35)),Og 37 36 false (.addr (.t 3) 2),Og 38 36 false (.load (.t 37) none),Og 39 36 false (.bin .lss (.t 38) (Ci 0)),Ob 40 (.pick (.t 36) (.c (.bool true)) (.t 39)),Ob 41 (.mov (.t 40)),Og 42 41 false (.addr (.t 3) 3),Og 43 41 false (.load (.t 42) none),Og 44 41 false (.bin .lss (.t 43) (Ci 0)),Ob 45 (.pick (.t 41) (.c (.bool true)) (.t 44)),Ob 46 (.mov (.t 45)),Og 47 46 false (.addr (.t 3) 1),Og 48 46 false (.load (.t 47) none),Og 49 46 false (.bin .gtr (.t 48) (Ci 9)),Ob 50 (.pick (.t 46) (.c (.bool true)) (.t 49)),Ob 51 (.mov (.t 50)),Og 52 51 false (.addr (.t 3) 2),Og 53 51 false (.load (.t 52) none),Og 54 51 false (.bin .gtr (.t 53) (Ci 9)),Ob 55 (.pick (.t 51) (.c (.bool true)) (.t 54)),Ob 56 (.mov (.t 55)),Og 57 56 false (.addr (.t 3) 3),Og 58 56 false (.load (.t 57) none),Og 59 56 false (.bin .gtr (.t 58) (Ci 9)),Ob 60 (.pick (.t 56) (.c (.bool true)) (.t 59))])
 (.cond (.t 60) (.seq (.region [Ob 61 (.call 12 []),Ob 4 (.mov (.t 61))])
 (.ret))
 (.skip)))
 (.seq (.region [Ob 63 (.load (.t 2) (some 5)),Ob 64 (.call 22 [(.t 63)]),Ob 62 (.mov (.t 64)),Ob 65 (.ext (.t 62) 0),Ob 66 (.ext (.t 62) 1),Ob 5 (.mov (.t 65)),Ob 6 (.mov (.t 66))])
 (.seq (.seq (.region [Ob 67 (.mov (.t 6)),Ob 68 (.bin .eql (.t 67) (Ci 3))])
 (.cond (.t 68) (.seq (.region [Ob 69 (.call 12 []),Ob 4 (.mov (.t 69))])
 (.ret))
 (.skip)))
 (.seq (.region [Ob 71 (.load (.t 2) (some 5)),Ob 72 (.addr (.t 3) 0),Ob 73 (.load (.t 72) none),Ob 74 (.call 32 [(.t 71), (.t 73)]),Ob 75 (.call 22 [(.t 74)]),Ob 70 (.mov (.t 75)),Ob 76 (.ext (.t 70) 0),Ob 77 (.ext (.t 70) 1),Ob 7 (.mov (.t 76)),Ob 8 (.mov (.t 77))])
 (.seq (.seq (.region [Ob 78 (.mov (.t 6)),Ob 79 (.bin .neq (.t 78) (Ci 0)),Ob 80 (.mov (.t 79)),Og 81 80 false (.mov (.t 8)),Og 82 80 false (.bin .neq (.t 81) (Ci 0)),Ob 83 (.pick (.t 80) (.c (.bool true)) (.t 82)),Ob 84 (.mov (.t 83)),Og 85 84 false (.mov (.t 7)),Og 86 84 false (.mov (.t 5)),Og 87 84 false (.bin .lss (.t 85) (.t 86)),Ob 88 (.pick (.t 84) (.c (.bool true)) (.t 87))])
 (.cond (.t 88) (.seq (.region [Ob 4 (.mov (.c (.bool false)))])
 (.ret))
 (.skip)))
 (.seq (.region [Ob 90 (.load (.t 2) (some 5)),Ob 91 (.addr (.t 3) 0),Ob 92 (.load (.t 91) none),Ob 93 (.call 26 [(.t 90), (.t 92)]),Ob 89 (.mov (.t 93)),Ob 94 (.ext (.t 89) 0),Ob 95 (.ext (.t 89) 1),Ob 9 (.mov (.t 94)),Ob 10 (.mov (.t 95))])
 (.seq (.seq (.region [Ob 96 (.mov (.t 10)),Ob 97 (.bin .neq (.t 96) (Ci 0)),Ob 98 (.mov (.t 97)),Og 99 98 false (.mov (.t 9)),Og 100 98 false (.mov (.t 7)),Og 101 98 false (.mov (.t 5)),Og 102 98 false (.bin .sub (.t 100) (.t 101)),Og 103 98 false (.bin .neq (.t 99) (.t 102)),Ob 104 (.pick (.t 98) (.c (.bool true)) (.t 103))])
 (.cond (.t 104) (.seq (.region [Ob 4 (.mov (.c (.bool false)))])
 (.ret))
 (.skip)))
 (.seq (.region [Ob 105 (.load (.t 2) (some 5)),Ob 106 (.call 13 [(.t 105)]),Ob 11 (.new (.agg [(.int .i64 0), (.sl [] .tight), (.int .i64 0), (.sl [] .tight), (.sl [] .tight)]) 5),On (.store (.t 11) (.t 106) 5)])
 (.seq (.region [Ob 107 (.addr (.t 11) 4),Ob 108 (.load (.t 107) none),Ob 109 (.addr (.t 3) 0),Ob 110 (.load (.t 109) none),Ob 111 (.idx (.t 108) (.t 110) 8),Ob 112 (.load (.t 111) (some 8)),Ob 12 (.new (.agg [(.int .i64 0), (.int .i64 0), (.int .i64 0), (.int .i64 0), (.int .i64 0), (.int .i64 0), (.int .i64 0), (.int .i64 0)]) 8),On (.store (.t 12) (.t 112) 8)])
 (.seq (.seq (.region [Ob 113 (.addr (.t 12) 0),Ob 114 (.load (.t 113) none)])
 (.block 0 (.seq (.region [Ob 128 (.bin .eql (.t 114) (Ci 1)),Ob 127 (.mov (.t 128))])
 (.cond (.t 127) (.region [Ob 129 (.addr (.t 12) 7),Ob 130 (.load (.t 129) none),Ob 131 (.addr (.t 3) 3),Ob 132 (.load (.t 131) none),Ob 133 (.bin .sub (.t 130) (.t 132)),Ob 134 (.mnx true (Ci 0) (.t 133)),Ob 135 (.addr (.t 12) 7),On (.store (.t 135) (.t 134) 1)])
 (.seq (.region [Ob 137 (.bin .eql (.t 114) (Ci 2)),Ob 136 (.mov (.t 137))])
 (.cond (.t 136) (.region [Ob 138 (.addr (.t 12) 7),Ob 139 (.load (.t 138) none),Ob 140 (.addr (.t 3) 3),Ob 141 (.load (.t 140) none),Ob 142 (.bin .add (.t 139) (.t 141)),Ob 143 (.mnx false (Ci 8) (.t 142)),Ob 144 (.addr (.t 12) 7),On (.store (.t 144) (.t 143) 1)])
 (.regionD [Ob 115 (.addr (.t 12) 2),Ob 116 (.load (.t 115) none),Ob 117 (.addr (.t 3) 1),Ob 118 (.load (.t 117) none),Ob 119 (.bin .add (.t 116) (.t 118)),Ob 120 (.addr (.t 12) 3),Ob 121 (.load (.t 120) none),Ob 122 (.addr (.t 3) 2),Ob 123 (.load (.t 122) none),Ob 124 (.bin .sub (.t 121) (.t 123)),Ob 125 (.addr (.t 12) 2),On (.store (.t 125) (.t 119) 1),Ob 126 (.addr (.t 12) 3),On (.store (.t 126) (.t 124) 1)] [(122, 125)])))))))
 (.seq (.region [Ob 145 (.addr (.t 11) 4),Ob 146 (.load (.t 145) none),Ob 147 (.addr (.t 3) 0),Ob 148 (.load (.t 147) none),Ob 149 (.load (.t 12) (some 8)),Ob 150 (.idx (.t 146) (.t 148) 8),On (.store (.t 150) (.t 149) 8)])
 (.seq (.seq (.region [Ob 151 (.load (.t 11) (some 5)),Ob 152 (.call 15 [(.t 151)]),Ob 153 (.bin .neq (.t 152) (Ci 0))])
 (.cond (.t 153) (.seq (.region [Ob 154 (.call 12 []),Ob 4 (.mov (.t 154))])
 (.ret))
 (.skip)))
 (.seq (.region [Ob 156 (.load (.t 11) (some 5)),Ob 157 (.call 22 [(.t 156)]),Ob 155 (.mov (.t 157)),Ob 158 (.ext (.t 155) 0),Ob 159 (.ext (.t 155) 1),Ob 13 (.mov (.t 158)),Ob 14 (.mov (.t 159))])
 (.seq (.region [Ob 160 (.mov (.t 14)),Ob 161 (.bin .eql (.t 160) (Ci 0)),Ob 162 (.mov (.t 161)),Og 163 162 true (.mov (.t 13)),Og 164 162 true (.mov (.t 5)),Og 165 162 true (.bin .geq (.t 163) (.t 164)),Ob 166 (.pick (.t 162) (.t 165) (.c (.bool false))),Ob 167 (.mov (.t 166)),Og 168 167 true (.call 12 []),Ob 169 (.pick (.t 167) (.t 168) (.c (.bool false))),Ob 4 (.mov (.t 169))])
 (.ret)))))))))))))))
def r8 : List Res := [.t 4]
def a8 : AFn := ⟨2, c8, r8,.v⟩

def c9 : ACode := .seq (.region [Ob 3 (.box (.t 0) 5),Ob 5 (.box (.t 2) 2),Ob 6 (.mov (.c (.bool false)))])
 (.seq (.seq (.region [Ob 22 (.load (.t 3) (some 5)),Ob 23 (.call 11 [(.t 22)]),Ob 24 (.mov (.t 23)),Og 25 24 false (.load (.t 3) (some 5)),Og 26 24 false (.call 15 [(.t 25)]),Og 27 24 false (.bin .neq (.t 26) (Ci 0)),Ob 28 (.pick (.t 24) (.c (.bool true)) (.t 27)),Ob 29 (.mov (.t 28)),Og 30 29 false (.load (.t 3) (some 5)),Og 31 29 false (.mov (.t 1)),Og 32 29 false (.call 29 [(.t 30), (.t 31)]),Og 33 29 false (.not (.t 32)),Ob 34 (.pick (.t 29) (.c (.bool true)) (.t 33)),Ob 35 (.mov (.t 34)),Og 36 35 false (.addr (.t 5) 0),Og 37 35 false (.load (.t 36) none),Og 38 35 false (.bin .lss (.t 37) (Ci 0)),Ob 39 (.pick (.t 35) (.c (.bool true)) (.t 38)),Ob 40 (.mov (.t 39)),Og 41 40 false (.addr (.t 5) 1),Og 42 40 false (.load (.t 41) none),Og 43 40 false (.bin .lss (.t 42) (Ci 0)),Ob 44 (.pick (.t 40) (.c (.bool true)) (.t 43))])
 (.cond (.t 44) (.seq (.region [Ob 45 (.call 12 []),Ob 6 (.mov (.t 45))])
 (.ret))
 (.skip)))
 (.seq (.region [Ob 47 (.load (.t 3) (some 5)),Ob 48 (.mov (.t 1)),Ob 49 (.call 16 [(.t 47), (.t 48)]),Ob 46 (.mov (.t 49)),Ob 50 (.ext (.t 46) 0),Ob 51 (.ext (.t 46) 1),Ob 7 (.mov (.t 50)),Ob 8 (.mov (.t 51))])
 (.seq (.region [Ob 53 (.load (.t 3) (some 5)),Ob 54 (.mov (.t 1)),Ob 55 (.call 18 [(.t 53), (.t 54)]),Ob 52 (.mov (.t 55)),Ob 56 (.ext (.t 52) 0),Ob 57 (.ext (.t 52) 1),Ob 9 (.mov (.t 56)),Ob 10 (.mov (.t 57))])
 (.seq (.seq (.region [Ob 58 (.mov (.t 8)),Ob 59 (.bin .neq (.t 58) (Ci 0)),Ob 60 (.mov (.t 59)),Og 61 60 false (.mov (.t 10)),Og 62 60 false (.bin .neq (.t 61) (Ci 0)),Ob 63 (.pick (.t 60) (.c (.bool true)) (.t 62))])
 (.cond (.t 63) (.seq (.region [Ob 6 (.mov (.c (.bool false)))])
 (.ret))
 (.skip)))
 (.seq (.seq (.region [Ob 64 (.addr (.t 5) 0),Ob 65 (.load (.t 64) none),Ob 66 (.addr (.t 3) 1),Ob 67 (.load (.t 66) none),Ob 68 (.len (.t 67)),Ob 69 (.bin .lss (.t 65) (.t 68)),Ob 70 (.mov (.t 69)),Og 71 70 true (.addr (.t 5) 1),Og 72 70 true (.load (.t 71) none),Og 73 70 true (.addr (.t 3) 1),Og 74 70 true (.load (.t 73) none),Og 75 70 true (.len (.t 74)),Og 76 70 true (.bin .lss (.t 72) (.t 75)),Ob 77 (.pick (.t 70) (.t 76) (.c (.bool false))),Ob 78 (.mov (.t 77)),Og 79 78 true (.addr (.t 3) 1),Og 80 78 true (.load (.t 79) none),Og 81 78 true (.addr (.t 5) 0),Og 82 78 true (.load (.t 81) none),Og 83 78 true (.idx (.t 80) (.t 82) 1),Og 84 78 true (.load (.t 83) none),Og 85 78 true (.addr (.t 3) 1),Og 86 78 true (.load (.t 85) none),Og 87 78 true (.addr (.t 5) 1),Og 88 78 true (.load (.t 87) none),Og 89 78 true (.idx (.t 86) (.t 88) 1),Og 90 78 true (.load (.t 89) none),Og 91 78 true (.bin .eql (.t 84) (.t 90)),Ob 92 (.pick (.t 78) (.t 91) (.c (.bool false)))])
 (.cond (.t 92) (.seq (.region [Ob 93 (.lit false 3 1 []),Ob 94 (.mov (.t 1)),Ob 95 (.app0 (.t 93) (.t 94) 3 1 8),Ob 11 (.mov (.t 95))])
 (.seq (.seq (.region [Ob 12 (.mov (Ci 0))])
 (.block 0 (.loop (.seq (.seq (.region [Ob 96 (.mov (.t 12)),Ob 97 (.addr (.t 3) 0),Ob 98 (.load (.t 97) none),Ob 99 (.bin .lss (.t 96) (.t 98))])
 (.cond (.t 99) (.skip)
 (.exit 0)))
 (.seq (.block 1 (.seq (.region [Ob 13 (.mov (Ci 0))])
 (.block 2 (.loop (.seq (.seq (.region [Ob 102 (.mov (.t 13)),Ob 103 (.addr (.t 3) 2),Ob 104 (.load (.t 103) none),Ob 105 (.bin .lss (.t 102) (.t 104))])
 (.cond (.t 105) (.skip)
 (.exit 2)))
 (.seq (.block 3 (.seq (.region [Ob 108 (.load (.t 3) (some 5)),Ob 109 (.mov (.t 12)),Ob 110 (.addr (.t 5) 0),Ob 111 (.load (.t 110) none),Ob 112 (.mov (.t 13)),Ob 113 (.call 33 [(.t 108), (.t 109), (.t 111), (.t 112)]),Ob 114 (.load (.t 3) (some 5)),Ob 115 (.mov (.t 12)),Ob 116 (.addr (.t 5) 1),Ob 117 (.load (.t 116) none),Ob 118 (.mov (.t 13)),Ob 119 (.call 33 [(.t 114), (.t 115), (.t 117), (.t 118)]),Ob 14 (.mov (.t 113)),Ob 15 (.mov (.t 119))])
 (.region [Ob 120 (.mov (.t 11)),Ob 121 (.mov (.t 14)),Ob 122 (.mov (.t 11)),Ob 123 (.mov (.t 15)),Ob 124 (.mov (.t 1)),Ob 125 (.mov (.t 15)),Ob 126 (.idx (.t 124) (.t 125) 1),Ob 127 (.load (.t 126) none),Ob 128 (.mov (.t 1)),Ob 129 (.mov (.t 14)),Ob 130 (.idx (.t 128) (.t 129) 1),Ob 131 (.load (.t 130) none),Ob 132 (.idx (.t 120) (.t 121) 1),On (.store (.t 132) (.t 127) 1),Ob 133 (.idx (.t 122) (.t 123) 1),On (.store (.t 133) (.t 131) 1)])))
 (.region [Ob 106 (.mov (.t 13)),Ob 107 (.bin .add (.t 106) (Ci 1)),Ob 13 (.mov (.t 107))])))))))
 (.region [Ob 100 (.mov (.t 12)),Ob 101 (.bin .add (.t 100) (Ci 1)),Ob 12 (.mov (.t 101))]))))))
 (.seq (.region [Ob 134 (.load (.t 3) (some 5)),Ob 135 (.mov (.t 11)),Ob 136 (.mov (.t 7)),Ob 137 (.mov (.t 9)),Ob 138 (.call 34 [(.t 134), (.t 135), (.t 136), (.t 137)]),Ob 139 (.not (.t 138))])
 (.cond (.t 139) (.seq (.region [Ob 6 (.mov (.c (.bool false)))])
 (.ret))
 (.skip)))))
 (.skip)))
 (.seq (.seq (.region [Ob 16 (.mov (Ci 0))])
 (.block 4 (.loop (.seq (.seq (.region [Ob 140 (.mov (.t 16)),Ob 141 (.addr (.t 3) 4),Ob 142 (.load (.t 141) none),Ob 143 (.len (.t 142)),Ob 144 (.bin .lss (.t 140) (.t 143))])
 (.cond (.t 144) (.skip)
 (.exit 4)))
 (.seq (.block 5 (.seq (.region [Ob 147 (.addr (.t 3) 4),Ob 148 (.load (.t 147) none),Ob 149 (.mov (.t 16)),Ob 150 (.idx (.t 148) (.t 149) 8),Ob 151 (.addr (.t 150) 2),Ob 152 (.load (.t 151) none),Ob 153 (.bin .neq (.t 152) (Ci 0)),Ob 154 (.mov (.t 153)),Og 155 154 false (.addr (.t 3) 4),Og 156 154 false (.load (.t 155) none),Og 157 154 false (.mov (.t 16)),Og 158 154 false (.idx (.t 156) (.t 157) 8),Og 159 154 false (.addr (.t 158) 3),Og 160 154 false (.load (.t 159) none),Og 161 154 false (.addr (.t 3) 0),Og 162 154 false (.load (.t 161) none),Og 163 154 false (.bin .sub (.t 162) (Ci 1)),Og 164 154 false (.bin .neq (.t 160) (.t 163)),Ob 165 (.pick (.t 154) (.c (.bool true)) (.t 164))])
 (.cond (.t 165) (.seq (.region [Ob 166 (.call 12 []),Ob 6 (.mov (.t 166))])
 (.ret))
 (.skip))))
 (.region [Ob 145 (.mov (.t 16)),Ob 146 (.bin .add (.t 145) (Ci 1)),Ob 16 (.mov (.t 146))]))))))
 (.seq (.seq (.region [Ob 167 (.addr (.t 5) 0),Ob 168 (.load (.t 167) none),Ob 169 (.addr (.t 3) 0),Ob 170 (.load (.t 169) none),Ob 171 (.bin .geq (.t 168) (.t 170)),Ob 172 (.mov (.t 171)),Og 173 172 false (.addr (.t 5) 1),Og 174 172 false (.load (.t 173) none),Og 175 172 false (.addr (.t 3) 0),Og 176 172 false (.load (.t 175) none),Og 177 172 false (.bin .geq (.t 174) (.t 176)),Ob 178 (.pick (.t 172) (.c (.bool true)) (.t 177))])
 (.cond (.t 178) (.seq (.region [Ob 179 (.call 12 []),Ob 6 (.mov (.t 179))])
 (.ret))
 (.skip)))
 (.seq (.region [Ob 180 (.lit false 3 1 []),Ob 181 (.mov (.t 1)),Ob 182 (.app0 (.t 180) (.t 181) 3 1 8),Ob 17 (.mov (.t 182))])
 (.seq (.seq (.region [Ob 18 (.mov (Ci 0))])
 (.block 6 (.loop (.seq (.seq (.region [Ob 183 (.mov (.t 18)),Ob 184 (.addr (.t 3) 1),Ob 185 (.load (.t 184) none),Ob 186 (.len (.t 185)),Ob 187 (.bin .lss (.t 183) (.t 186))])
 (.cond (.t 187) (.skip)
 (.exit 6)))
 (.seq (.block 7 (.seq (.region [Ob 19 (.mov (Ci 0))])
 (.block 8 (.loop (.seq (.seq (.region [Ob 190 (.mov (.t 19)),Ob 191 (.addr (.t 3) 2),Ob 192 (.load (.t 191) none),Ob 193 (.bin .lss (.t 190) (.t 192))])
 (.cond (.t 193) (.skip)
 (.exit 8)))
 (.seq (.block 9 (.seq (.region [Ob 196 (.load (.t 3) (some 5)),Ob 197 (.addr (.t 5) 0),Ob 198 (.load (.t 197) none),Ob 199 (.mov (.t 18)),Ob 200 (.mov (.t 19)),Ob 201 (.call 33 [(.t 196), (.t 198), (.t 199), (.t 200)]),Ob 202 (.load (.t 3) (some 5)),Ob 203 (.addr (.t 5) 1),Ob 204 (.load (.t 203) none),Ob 205 (.mov (.t 18)),Ob 206 (.mov (.t 19)),Ob 207 (.call 33 [(.t 202), (.t 204), (.t 205), (.t 206)]),Ob 20 (.mov (.t 201)),Ob 21 (.mov (.t 207))])
 (.region [Ob 208 (.mov (.t 17)),Ob 209 (.mov (.t 20)),Ob 210 (.mov (.t 17)),Ob 211 (.mov (.t 21)),Ob 212 (.mov (.t 1)),Ob 213 (.mov (.t 21)),Ob 214 (.idx (.t 212) (.t 213) 1),Ob 215 (.load (.t 214) none),Ob 216 (.mov (.t 1)),Ob 217 (.mov (.t 20)),Ob 218 (.idx (.t 216) (.t 217) 1),Ob 219 (.load (.t 218) none),Ob 220 (.idx (.t 208) (.t 209) 1),On (.store (.t 220) (.t 215) 1),Ob 221 (.idx (.t 210) (.t 211) 1),On (.store (.t 221) (.t 219) 1)])))
 (.region [Ob 194 (.mov (.t 19)),Ob 195 (.bin .add (.t 194) (Ci 1)),Ob 19 (.mov (.t 195))])))))))
 (.region [Ob 188 (.mov (.t 18)),Ob 189 (.bin .add (.t 188) (Ci 1)),Ob 18 (.mov (.t 189))]))))))
 (.seq (.region [Ob 222 (.load (.t 3) (some 5)),Ob 223 (.mov (.t 17)),Ob 224 (.mov (.t 7)),Ob 225 (.mov (.t 9)),Ob 226 (.call 34 [(.t 222), (.t 223), (.t 224), (.t 225)]),Ob 227 (.mov (.t 226)),Og 228 227 true (.call 12 []),Ob 229 (.pick (.t 227) (.t 228) (.c (.bool false))),Ob 6 (.mov (.t 229))])
 (.ret)))))))))))
def r9 : List Res := [.t 6]
def a9 : AFn := ⟨3, c9, r9,.v⟩

def c10 : ACode := .seq (.region [Ob 3 (.box (.t 0) 5),Ob 5 (.box (.t 2) 2),Ob 6 (.mov (.c (.bool false)))])
 (.seq (.seq (.region [Ob 16 (.load (.t 3) (some 5)),Ob 17 (.call 30 [(.t 16)]),Ob 18 (.not (.t 17)),Ob 19 (.mov (.t 18)),Og 20 19 false (.mov (.t 1)),Og 21 19 false (.bin .lss (.t 20) (Ci 1)),Ob 22 (.pick (.t 19) (.c (.bool true)) (.t 21)),Ob 23 (.mov (.t 22)),Og 24 23 false (.mov (.t 1)),Og 25 23 false (.bin .gtr (.t 24) (Ci 20)),Ob 26 (.pick (.t 23) (.c (.bool true)) (.t 25))])
 (.cond (.t 26) (.seq (.region [Ob 27 (.call 12 []),Ob 6 (.mov (.t 27))])
 (.ret))
 (.skip)))
 (.seq (.region [Ob 29 (.load (.t 3) (some 5)),Ob 30 (.call 22 [(.t 29)]),Ob 28 (.mov (.t 30)),Ob 31 (.ext (.t 28) 0),Ob 32 (.ext (.t 28) 1),Ob 7 (.mov (.t 31)),Ob 8 (.mov (.t 32))])
 (.seq (.region [Ob 33 (.load (.t 3) (some 5)),Ob 34 (.call 13 [(.t 33)]),Ob 9 (.new (.agg [(.int .i64 0), (.sl [] .tight), (.int .i64 0), (.sl [] .tight), (.sl [] .tight)]) 5),On (.store (.t 9) (.t 34) 5)])
 (.seq (.seq (.region [Ob 10 (.mov (Ci 0))])
 (.block 0 (.loop (.seq (.seq (.region [Ob 35 (.mov (.t 10)),Ob 36 (.addr (.t 9) 3),Ob 37 (.load (.t 36) none),Ob 38 (.len (.t 37)),Ob 39 (.bin .lss (.t 35) (.t 38))])
 (.cond (.t 39) (.skip)
 (.exit 0)))
 (.seq (.block 1 (.region [Ob 42 (.addr (.t 9) 3),Ob 43 (.load (.t 42) none),Ob 44 (.mov (.t 10)),Ob 45 (.idx (.t 43) (.t 44) 2),Ob 46 (.addr (.t 45) 0),Ob 47 (.load (.t 46) none),Ob 48 (.mov (.t 1)),Ob 49 (.bin .mul (.t 47) (.t 48)),Ob 50 (.idx (.t 43) (.t 44) 2),Ob 51 (.addr (.t 50) 0),On (.store (.t 51) (.t 49) 1)]))
 (.region [Ob 40 (.mov (.t 10)),Ob 41 (.bin .add (.t 40) (Ci 1)),Ob 10 (.mov (.t 41))]))))))
 (.seq (.seq (.region [Ob 52 (.load (.t 9) (some 5)),Ob 53 (.call 15 [(.t 52)]),Ob 54 (.bin .eql (.t 53) (Ci 0))])
 (.cond (.t 54) (.seq (.region [Ob 56 (.load (.t 9) (some 5)),Ob 57 (.call 22 [(.t 56)]),Ob 55 (.mov (.t 57)),Ob 58 (.ext (.t 55) 0),Ob 59 (.ext (.t 55) 1),Ob 11 (.mov (.t 58)),Ob 12 (.mov (.t 59))])
 (.seq (.region [Ob 60 (.mov (.t 12)),Ob 61 (.mov (.t 8)),Ob 62 (.bin .neq (.t 60) (.t 61)),Ob 63 (.mov (.t 62)),Og 64 63 false (.mov (.t 11)),Og 65 63 false (.mov (.t 7)),Og 66 63 false (.mov (.t 1)),Og 67 63 false (.bin .mul (.t 65) (.t 66)),Og 68 63 false (.bin .neq (.t 64) (.t 67)),Ob 69 (.pick (.t 63) (.c (.bool true)) (.t 68))])
 (.cond (.t 69) (.seq (.region [Ob 6 (.mov (.c (.bool false)))])
 (.ret))
 (.skip))))
 (.skip)))
 (.seq (.region [Ob 70 (.load (.t 3) (some 5)),Ob 71 (.call 13 [(.t 70)]),Ob 13 (.new (.agg [(.int .i64 0), (.sl [] .tight), (.int .i64 0), (.sl [] .tight), (.sl [] .tight)]) 5),On (.store (.t 13) (.t 71) 5)])
 (.seq (.region [Ob 72 (.addr (.t 13) 3),Ob 73 (.load (.t 72) none),Ob 74 (.load (.t 5) (some 2)),Ob 75 (.lit false 55 2 [(.t 74)]),Ob 76 (.app false (.t 73) (.t 75) 55 2 32),Ob 77 (.addr (.t 13) 3),On (.store (.t 77) (.t 76) 1)])
 (.seq (.seq (.region [Ob 78 (.addr (.t 5) 1),Ob 79 (.load (.t 78) none),Ob 80 (.len (.t 79)),Ob 81 (.bin .gtr (.t 80) (Ci 20)),Ob 82 (.mov (.t 81)),Og 83 82 false (.load (.t 13) (some 5)),Og 84 82 false (.call 30 [(.t 83)]),Og 85 82 false (.not (.t 84)),Ob 86 (.pick (.t 82) (.c (.bool true)) (.t 85))])
 (.cond (.t 86) (.seq (.region [Ob 87 (.call 12 []),Ob 6 (.mov (.t 87))])
 (.ret))
 (.skip)))
 (.seq (.region [Ob 89 (.load (.t 13) (some 5)),Ob 90 (.call 22 [(.t 89)]),Ob 88 (.mov (.t 90)),Ob 91 (.ext (.t 88) 0),Ob 92 (.ext (.t 88) 1),Ob 14 (.mov (.t 91)),Ob 15 (.mov (.t 92))])
 (.seq (.region [Ob 93 (.mov (.t 8)),Ob 94 (.bin .neq (.t 93) (Ci 0)),Ob 95 (.mov (.t 94)),Og 96 95 false (.mov (.t 15)),Og 97 95 false (.bin .eql (.t 96) (Ci 0)),Og 98 95 false (.mov (.t 97)),Og 99 98 true (.mov (.t 14)),Og 100 98 true (.mov (.t 7)),Og 101 98 true (.bin .geq (.t 99) (.t 100)),Og 102 95 false (.pick (.t 98) (.t 101) (.c (.bool false))),Ob 103 (.pick (.t 95) (.c (.bool true)) (.t 102)),Ob 104 (.mov (.t 103)),Og 105 104 true (.call 12 []),Ob 106 (.pick (.t 104) (.t 105) (.c (.bool false))),Ob 6 (.mov (.t 106))])
 (.ret)))))))))))
def r10 : List Res := [.t 6]
def a10 : AFn := ⟨3, c10, r10,.v⟩

def c11 : ACode := .seq (.region [Ob 1 (.box (.t 0) 5),Ob 2 (.mov (.c (.bool false)))])
 (.seq (.seq (.region [Ob 3 (.mov (Ci 0))])
 (.block 0 (.loop (.seq (.seq (.region [Ob 4 (.mov (.t 3)),Ob 5 (.addr (.t 1) 3),Ob 6 (.load (.t 5) none),Ob 7 (.len (.t 6)),Ob 8 (.bin .lss (.t 4) (.t 7))])
 (.cond (.t 8) (.skip)
 (.exit 0)))
 (.seq (.block 1 (.seq (.region [Ob 11 (.addr (.t 1) 3),Ob 12 (.load (.t 11) none),Ob 13 (.mov (.t 3)),Ob 14 (.idx (.t 12) (.t 13) 2),Ob 15 (.addr (.t 14) 1),Ob 16 (.load (.t 15) none),Ob 17 (.len (.t 16)),Ob 18 (.bin .gtr (.t 17) (Ci 40))])
 (.cond (.t 18) (.seq (.region [Ob 2 (.mov (.c (.bool true)))])
 (.ret))
 (.skip))))
 (.region [Ob 9 (.mov (.t 3)),Ob 10 (.bin .add (.t 9) (Ci 1)),Ob 3 (.mov (.t 10))]))))))
 (.seq (.region [Ob 19 (.addr (.t 1) 1),Ob 20 (.load (.t 19) none),Ob 21 (.len (.t 20)),Ob 22 (.bin .gtr (.t 21) (Ci 40)),Ob 23 (.mov (.t 22)),Og 24 23 false (.addr (.t 1) 3),Og 25 23 false (.load (.t 24) none),Og 26 23 false (.len (.t 25)),Og 27 23 false (.bin .gtr (.t 26) (Ci 40)),Ob 28 (.pick (.t 23) (.c (.bool true)) (.t 27)),Ob 29 (.mov (.t 28)),Og 30 29 false (.addr (.t 1) 4),Og 31 29 false (.load (.t 30) none),Og 32 29 false (.len (.t 31)),Og 33 29 false (.bin .gtr (.t 32) (Ci 40)),Ob 34 (.pick (.t 29) (.c (.bool true)) (.t 33)),Ob 2 (.mov (.t 34))])
 (.ret)))
def r11 : List Res := [.t 2]
def a11 : AFn := ⟨1, c11, r11,.v⟩

def c12 : ACode := .seq (.region [Ob 0 (.mov (.c (.bool false)))])
 (.seq (.region [Ob 10 (.call 35 []),Ob 1 (.new (.agg [(.int .i64 0), (.sl [] .tight), (.int .i64 0), (.sl [] .tight), (.sl [] .tight)]) 5),On (.store (.t 1) (.t 10) 5)])
 (.seq (.region [Ob 12 (.load (.t 1) (some 5)),Ob 13 (.call 22 [(.t 12)]),Ob 11 (.mov (.t 13)),Ob 14 (.ext (.t 11) 0),Ob 15 (.ext (.t 11) 1),Ob 2 (.mov (.t 14)),Ob 3 (.mov (.t 15))])
 (.seq (.region [Ob 17 (.load (.t 1) (some 5)),Ob 18 (.lit false 3 1 [(Ci 0), (Ci 1), (Ci 0), (Ci (-1))]),Ob 19 (.call 16 [(.t 17), (.t 18)]),Ob 16 (.mov (.t 19)),Ob 20 (.ext (.t 16) 0),Ob 21 (.ext (.t 16) 1),Ob 4 (.mov (.t 20)),Ob 5 (.mov (.t 21))])
 (.seq (.region [Ob 23 (.load (.t 1) (some 5)),Ob 24 (.call 26 [(.t 23), (Ci 0)]),Ob 22 (.mov (.t 24)),Ob 25 (.ext (.t 22) 0),Ob 26 (.ext (.t 22) 1),Ob 6 (.mov (.t 25)),Ob 7 (.mov (.t 26))])
 (.seq (.region [Ob 28 (.load (.t 1) (some 5)),Ob 29 (.call 24 [(.t 28)]),Ob 27 (.mov (.t 29)),Ob 30 (.ext (.t 27) 0),Ob 31 (.ext (.t 27) 1),Ob 8 (.mov (.t 30)),Ob 9 (.mov (.t 31))])
 (.seq (.region [Ob 32 (.mov (.t 3)),Ob 33 (.bin .eql (.t 32) (Ci 0)),Ob 34 (.mov (.t 33)),Og 35 34 true (.mov (.t 5)),Og 36 34 true (.bin .eql (.t 35) (Ci 0)),Ob 37 (.pick (.t 34) (.t 36) (.c (.bool false))),Ob 38 (.mov (.t 37)),Og 39 38 true (.mov (.t 7)),Og 40 38 true (.bin .eql (.t 39) (Ci 0)),Ob 41 (.pick (.t 38) (.t 40) (.c (.bool false))),Ob 42 (.mov (.t 41)),Og 43 42 true (.mov (.t 9)),Og 44 42 true (.bin .eql (.t 43) (Ci 3)),Ob 45 (.pick (.t 42) (.t 44) (.c (.bool false))),Ob 46 (.mov (.t 45)),Og 47 46 true (.mov (.t 2)),Og 48 46 true (.bin .eql (.t 47) (Ci 2520)),Ob 49 (.pick (.t 46) (.t 48) (.c (.bool false))),Ob 50 (.mov (.t 49)),Og 51 50 true (.mov (.t 4)),Og 52 50 true (.lit false 3 1 [(Ci 0), (Ci 1)]),Og 53 50 true (.call 20 [(.t 51), (.t 52)]),Ob 54 (.pick (.t 50) (.t 53) (.c (.bool false))),Ob 55 (.mov (.t 54)),Og 56 55 true (.mov (.t 6)),Og 57 55 true (.bin .eql (.t 56) (Ci 280)),Ob 58 (.pick (.t 55) (.t 57) (.c (.bool false))),Ob 0 (.mov (.t 58))])
 (.ret)))))))
def r12 : List Res := [.t 0]
def a12 : AFn := ⟨0, c12, r12,.v⟩

def c13 : ACode := .seq (.region [Ob 1 (.boxf (.t 0) 5),Ob 2 (.new (.agg [(.int .i64 0), (.sl [] .tight), (.int .i64 0), (.sl [] .tight), (.sl [] .tight)]) 5)])
 (.seq (.region [Ob 5 (.load (.t 1) (some 5)),Ob 3 (.new (.agg [(.int .i64 0), (.sl [] .tight), (.int .i64 0), (.sl [] .tight), (.sl [] .tight)]) 5),On (.store (.t 3) (.t 5) 5)])
 (.seq (.region [Ob 6 (.lit false 3 1 []),Ob 7 (.addr (.t 1) 1),Ob 8 (.load (.t 7) none),Ob 9 (.app0 (.t 6) (.t 8) 3 1 8),Ob 10 (.addr (.t 3) 1),On (.store (.t 10) (.t 9) 1)])
 (.seq (.region [Ob 11 (.lit false 55 2 []),Ob 12 (.addr (.t 1) 3),Ob 13 (.load (.t 12) none),Ob 14 (.app0 (.t 11) (.t 13) 55 2 32),Ob 15 (.addr (.t 3) 3),On (.store (.t 15) (.t 14) 1)])
 (.seq (.seq (.region [Ob 4 (.mov (Ci 0))])
 (.block 0 (.loop (.seq (.seq (.region [Ob 16 (.mov (.t 4)),Ob 17 (.addr (.t 3) 3),Ob 18 (.load (.t 17) none),Ob 19 (.len (.t 18)),Ob 20 (.bin .lss (.t 16) (.t 19))])
 (.cond (.t 20) (.skip)
 (.exit 0)))
 (.seq (.block 1 (.region [Ob 23 (.addr (.t 3) 3),Ob 24 (.load (.t 23) none),Ob 25 (.mov (.t 4)),Ob 26 (.lit false 3 1 []),Ob 27 (.addr (.t 1) 3),Ob 28 (.load (.t 27) none),Ob 29 (.mov (.t 4)),Ob 30 (.idx (.t 28) (.t 29) 2),Ob 31 (.addr (.t 30) 1),Ob 32 (.load (.t 31) none),Ob 33 (.app0 (.t 26) (.t 32) 3 1 8),Ob 34 (.idx (.t 24) (.t 25) 2),Ob 35 (.addr (.t 34) 1),On (.store (.t 35) (.t 33) 1)]))
 (.region [Ob 21 (.mov (.t 4)),Ob 22 (.bin .add (.t 21) (Ci 1)),Ob 4 (.mov (.t 22))]))))))
 (.seq (.region [Ob 36 (.lit false 47 8 []),Ob 37 (.addr (.t 1) 4),Ob 38 (.load (.t 37) none),Ob 39 (.app0 (.t 36) (.t 38) 47 8 64),Ob 40 (.addr (.t 3) 4),On (.store (.t 40) (.t 39) 1)])
 (.seq (.region [Ob 41 (.load (.t 3) (some 5)),On (.store (.t 2) (.t 41) 5)])
 (.ret)))))))
def r13 : List Res := [.cell 2 (some 5)]
def a13 : AFn := ⟨1, c13, r13,.o⟩

def c14 : ACode := .seq (.region [Ob 1 (.box (.t 0) 5),Ob 2 (.mov (Ci 0))])
 (.seq (.block 0 (.seq (.region [Ob 4 (.load (.t 1) (some 5)),Ob 5 (.call 36 [(.t 4)]),Ob 6 (.not (.t 5)),Ob 3 (.mov (.t 6))])
 (.cond (.t 3) (.seq (.region [Ob 2 (.mov (Ci 50))])
 (.ret))
 (.seq (.region [Ob 8 (.load (.t 1) (some 5)),Ob 9 (.call 37 [(.t 8)]),Ob 10 (.not (.t 9)),Ob 7 (.mov (.t 10))])
 (.cond (.t 7) (.seq (.region [Ob 2 (.mov (Ci 51))])
 (.ret))
 (.skip))))))
 (.seq (.region [Ob 2 (.mov (Ci 0))])
 (.ret)))
def r14 : List Res := [.t 2]
def a14 : AFn := ⟨1, c14, r14,.v⟩

def c15 : ACode := .seq (.region [Ob 1 (.box (.t 0) 5),Ob 2 (.mov (Ci 0))])
 (.seq (.seq (.region [Ob 6 (.addr (.t 1) 0),Ob 7 (.load (.t 6) none),Ob 8 (.call 38 [(.t 7), (Ci 1), (Ci 7)]),Ob 9 (.not (.t 8)),Ob 10 (.mov (.t 9)),Og 11 10 false (.addr (.t 1) 1),Og 12 10 false (.load (.t 11) none),Og 13 10 false (.len (.t 12)),Og 14 10 false (.call 38 [(.t 13), (Ci 1), (Ci 4)]),Og 15 10 false (.not (.t 14)),Ob 16 (.pick (.t 10) (.c (.bool true)) (.t 15)),Ob 17 (.mov (.t 16)),Og 18 17 false (.addr (.t 1) 2),Og 19 17 false (.load (.t 18) none),Og 20 17 false (.call 38 [(.t 19), (Ci 1), (Ci 4)]),Og 21 17 false (.not (.t 20)),Ob 22 (.pick (.t 17) (.c (.bool true)) (.t 21)),Ob 23 (.mov (.t 22)),Og 24 23 false (.load (.t 1) (some 5)),Og 25 23 false (.call 39 [(.t 24)]),Og 26 23 false (.bin .gtr (.t 25) (Ci 8)),Ob 27 (.pick (.t 23) (.c (.bool true)) (.t 26)),Ob 28 (.mov (.t 27)),Og 29 28 false (.addr (.t 1) 3),Og 30 28 false (.load (.t 29) none),Og 31 28 false (.len (.t 30)),Og 32 28 false (.bin .gtr (.t 31) (Ci 4)),Ob 33 (.pick (.t 28) (.c (.bool true)) (.t 32)),Ob 34 (.mov (.t 33)),Og 35 34 false (.addr (.t 1) 4),Og 36 34 false (.load (.t 35) none),Og 37 34 false (.len (.t 36)),Og 38 34 false (.bin .gtr (.t 37) (Ci 8)),Ob 39 (.pick (.t 34) (.c (.bool true)) (.t 38))])
 (.cond (.t 39) (.seq (.region [Ob 2 (.mov (Ci 50))])
 (.ret))
 (.skip)))
 (.seq (.seq (.region [Ob 3 (.mov (Ci 0))])
 (.block 0 (.loop (.seq (.seq (.region [Ob 40 (.mov (.t 3)),Ob 41 (.addr (.t 1) 1),Ob 42 (.load (.t 41) none),Ob 43 (.len (.t 42)),Ob 44 (.bin .lss (.t 40) (.t 43))])
 (.cond (.t 44) (.skip)
 (.exit 0)))
 (.seq (.block 1 (.seq (.region [Ob 47 (.addr (.t 1) 1),Ob 48 (.load (.t 47) none),Ob 49 (.mov (.t 3)),Ob 50 (.idx (.t 48) (.t 49) 1),Ob 51 (.load (.t 50) none),Ob 52 (.call 38 [(.t 51), (Ci 1), (Ci 500)]),Ob 53 (.not (.t 52))])
 (.cond (.t 53) (.seq (.region [Ob 2 (.mov (Ci 50))])
 (.ret))
 (.skip))))
 (.region [Ob 45 (.mov (.t 3)),Ob 46 (.bin .add (.t 45) (Ci 1)),Ob 3 (.mov (.t 46))]))))))
 (.seq (.seq (.region [Ob 4 (.mov (Ci 0))])
 (.block 2 (.loop (.seq (.seq (.region [Ob 54 (.mov (.t 4)),Ob 55 (.addr (.t 1) 3),Ob 56 (.load (.t 55) none),Ob 57 (.len (.t 56)),Ob 58 (.bin .lss (.t 54) (.t 57))])
 (.cond (.t 58) (.skip)
 (.exit 2)))
 (.seq (.block 3 (.seq (.region [Ob 61 (.addr (.t 1) 2),Ob 62 (.load (.t 61) none),Ob 63 (.addr (.t 1) 3),Ob 64 (.load (.t 63) none),Ob 65 (.mov (.t 4)),Ob 66 (.idx (.t 64) (.t 65) 2),Ob 67 (.load (.t 66) (some 2)),Ob 68 (.call 40 [(.t 62), (.t 67)]),Ob 69 (.not (.t 68))])
 (.cond (.t 69) (.seq (.region [Ob 2 (.mov (Ci 50))])
 (.ret))
 (.skip))))
 (.region [Ob 59 (.mov (.t 4)),Ob 60 (.bin .add (.t 59) (Ci 1)),Ob 4 (.mov (.t 60))]))))))
 (.seq (.seq (.region [Ob 5 (.mov (Ci 0))])
 (.block 4 (.loop (.seq (.seq (.region [Ob 70 (.mov (.t 5)),Ob 71 (.addr (.t 1) 4),Ob 72 (.load (.t 71) none),Ob 73 (.len (.t 72)),Ob 74 (.bin .lss (.t 70) (.t 73))])
 (.cond (.t 74) (.skip)
 (.exit 4)))
 (.seq (.block 5 (.seq (.region [Ob 77 (.load (.t 1) (some 5)),Ob 78 (.addr (.t 1) 4),Ob 79 (.load (.t 78) none),Ob 80 (.mov (.t 5)),Ob 81 (.idx (.t 79) (.t 80) 8),Ob 82 (.load (.t 81) (some 8)),Ob 83 (.call 41 [(.t 77), (.t 82)]),Ob 84 (.not (.t 83))])
 (.cond (.t 84) (.seq (.region [Ob 2 (.mov (Ci 51))])
 (.ret))
 (.skip))))
 (.region [Ob 75 (.mov (.t 5)),Ob 76 (.bin .add (.t 75) (Ci 1)),Ob 5 (.mov (.t 76))]))))))
 (.seq (.region [Ob 2 (.mov (Ci 0))])
 (.ret))))))
def r15 : List Res := [.t 2]
def a15 : AFn := ⟨1, c15, r15,.v⟩

def c16 : ACode := .seq (.region [Ob 2 (.box (.t 0) 5),Ob 4 (.mov (.c (.sl [] .tight))),Ob 5 (.mov (Ci 0))])
 (.seq (.seq (.region [Ob 10 (.load (.t 2) (some 5)),Ob 11 (.mov (.t 1)),Ob 12 (.call 42 [(.t 10), (.t 11)]),Ob 6 (.mov (.t 12))])
 (.seq (.region [Ob 13 (.mov (.t 6)),Ob 14 (.bin .neq (.t 13) (Ci 0))])
 (.cond (.t 14) (.seq (.region [Ob 15 (.mov (.t 6)),Ob 4 (.mov (.c (.sl [] .tight))),Ob 5 (.mov (.t 15))])
 (.ret))
 (.skip))))
 (.seq (.region [Ob 7 (.mov (.c (.sl [] .tight)))])
 (.seq (.seq (.region [Ob 16 (.addr (.t 2) 4),Ob 17 (.load (.t 16) none),Ob 18 (.len (.t 17)),Ob 19 (.mov (Ci 0))])
 (.block 0 (.loop (.seq (.region [Ob 20 (.bin .lss (.t 19) (.t 18))])
 (.seq (.cond (.t 20) (.skip)
 (.exit 0))
 (.seq (.block 1 (.seq (.region [Ob 21 (.mov (.t 19)),Ob 22 (.idx (.t 17) (.t 19) 8),Ob 23 (.load (.t 22) (some 8)),Ob 9 (.new (.agg [(.int .i64 0), (.int .i64 0), (.int .i64 0), (.int .i64 0), (.int .i64 0), (.int .i64 0), (.int .i64 0), (.int .i64 0)]) 8),Ob 8 (.mov (.t 21)),On (.store (.t 9) (.t 23) 8)])
 (.seq (.region [Ob 24 (.load (.t 2) (some 5)),Ob 25 (.load (.t 9) (some 8)),Ob 26 (.mov (.t 1)),Ob 27 (.addr (.t 9) 1),Ob 28 (.load (.t 27) none),Ob 29 (.call 44 [(.t 26), (.t 28)]),Ob 30 (.call 43 [(.t 24), (.t 25), (.t 29)]),Ob 31 (.not (.t 30))])
 (.cond (.t 31) (.region [Ob 32 (.mov (.t 7)),Ob 33 (.mov (.t 8)),Ob 34 (.lit false 3 1 [(.t 33)]),Ob 35 (.app false (.t 32) (.t 34) 3 1 8),Ob 7 (.mov (.t 35))])
 (.skip)))))
 (.region [Ob 36 (.bin .add (.t 19) (Ci 1)),Ob 19 (.mov (.t 36))])))))))
 (.seq (.region [Ob 37 (.mov (.t 7)),Ob 4 (.mov (.t 37)),Ob 5 (.mov (Ci 0))])
 (.ret)))))
def r16 : List Res := [.t 4,.t 5]
def a16 : AFn := ⟨2, c16, r16,.v⟩

def c17 : ACode := .seq (.region [Ob 2 (.box (.t 0) 5),Ob 4 (.mov (.c (.sl [] .tight))),Ob 5 (.mov (Ci 0))])
 (.seq (.seq (.region [Ob 7 (.load (.t 2) (some 5)),Ob 8 (.mov (.t 1)),Ob 9 (.call 45 [(.t 7), (.t 8)]),Ob 6 (.mov (.t 9))])
 (.seq (.region [Ob 10 (.mov (.t 6)),Ob 11 (.bin .neq (.t 10) (Ci 0))])
 (.cond (.t 11) (.seq (.region [Ob 12 (.mov (.t 6)),Ob 4 (.mov (.c (.sl [] .tight))),Ob 5 (.mov (.t 12))])
 (.ret))
 (.skip))))
 (.seq (.region [Ob 13 (.load (.t 2) (some 5)),Ob 14 (.mov (.t 1)),Ob 15 (.call 46 [(.t 13), (.t 14)]),Ob 4 (.mov (.t 15)),Ob 5 (.mov (Ci 0))])
 (.ret)))
def r17 : List Res := [.t 4,.t 5]
def a17 : AFn := ⟨2, c17, r17,.v⟩

def c18 : ACode := .seq (.region [Ob 2 (.box (.t 0) 5),Ob 4 (.mov (Ci 0)),Ob 5 (.mov (Ci 0))])
 (.seq (.seq (.region [Ob 9 (.load (.t 2) (some 5)),Ob 10 (.mov (.t 1)),Ob 11 (.call 42 [(.t 9), (.t 10)]),Ob 6 (.mov (.t 11))])
 (.seq (.region [Ob 12 (.mov (.t 6)),Ob 13 (.bin .neq (.t 12) (Ci 0))])
 (.cond (.t 13) (.seq (.region [Ob 14 (.mov (.t 6)),Ob 4 (.mov (Ci 0)),Ob 5 (.mov (.t 14))])
 (.ret))
 (.skip))))
 (.seq (.region [Ob 7 (.mov (Ci 0))])
 (.seq (.seq (.region [Ob 15 (.addr (.t 2) 3),Ob 16 (.load (.t 15) none),Ob 17 (.len (.t 16)),Ob 18 (.mov (Ci 0))])
 (.block 0 (.loop (.seq (.region [Ob 19 (.bin .lss (.t 18) (.t 17))])
 (.seq (.cond (.t 19) (.skip)
 (.exit 0))
 (.seq (.block 1 (.seq (.region [Ob 20 (.mov (.t 18)),Ob 8 (.mov (.t 20))])
 (.region [Ob 21 (.mov (.t 7)),Ob 22 (.load (.t 2) (some 5)),Ob 23 (.mov (.t 8)),Ob 24 (.mov (.t 1)),Ob 25 (.mov (.t 8)),Ob 26 (.call 44 [(.t 24), (.t 25)]),Ob 27 (.call 47 [(.t 22), (.t 23), (.t 26)]),Ob 28 (.bin .add (.t 21) (.t 27)),Ob 7 (.mov (.t 28))])))
 (.region [Ob 29 (.bin .add (.t 18) (Ci 1)),Ob 18 (.mov (.t 29))])))))))
 (.seq (.region [Ob 30 (.mov (.t 7)),Ob 4 (.mov (.t 30)),Ob 5 (.mov (Ci 0))])
 (.ret)))))
def r18 : List Res := [.t 4,.t 5]
def a18 : AFn := ⟨2, c18, r18,.v⟩

def c19 : ACode := .seq (.region [Ob 2 (.box (.t 0) 5),Ob 4 (.mov (Ci 0)),Ob 5 (.mov (Ci 0))])
 (.seq (.seq (.region [Ob 7 (.load (.t 2) (some 5)),Ob 8 (.mov (.t 1)),Ob 9 (.call 45 [(.t 7), (.t 8)]),Ob 6 (.mov (.t 9))])
 (.seq (.region [Ob 10 (.mov (.t 6)),Ob 11 (.bin .neq (.t 10) (Ci 0))])
 (.cond (.t 11) (.seq (.region [Ob 12 (.mov (.t 6)),Ob 4 (.mov (Ci 0)),Ob 5 (.mov (.t 12))])
 (.ret))
 (.skip))))
 (.seq (.region [Ob 13 (.load (.t 2) (some 5)),Ob 14 (.mov (.t 1)),Ob 15 (.call 48 [(.t 13), (.t 14)]),Ob 4 (.mov (.t 15)),Ob 5 (.mov (Ci 0))])
 (.ret)))
def r19 : List Res := [.t 4,.t 5]
def a19 : AFn := ⟨2, c19, r19,.v⟩

def c20 : ACode := .seq (.region [Ob 4 (.mov (.c (.bool false)))])
 (.seq (.seq (.region [Ob 6 (.mov (.t 0)),Ob 7 (.len (.t 6)),Ob 8 (.mov (.t 1)),Ob 9 (.len (.t 8)),Ob 10 (.bin .neq (.t 7) (.t 9))])
 (.cond (.t 10) (.seq (.region [Ob 4 (.mov (.c (.bool false)))])
 (.ret))
 (.skip)))
 (.seq (.seq (.region [Ob 5 (.mov (Ci 0))])
 (.block 0 (.loop (.seq (.seq (.region [Ob 11 (.mov (.t 5)),Ob 12 (.mov (.t 0)),Ob 13 (.len (.t 12)),Ob 14 (.bin .lss (.t 11) (.t 13))])
 (.cond (.t 14) (.skip)
 (.exit 0)))
 (.seq (.block 1 (.seq (.region [Ob 17 (.mov (.t 0)),Ob 18 (.mov (.t 5)),Ob 19 (.idx (.t 17) (.t 18) 1),Ob 20 (.load (.t 19) none),Ob 21 (.mov (.t 1)),Ob 22 (.mov (.t 5)),Ob 23 (.idx (.t 21) (.t 22) 1),Ob 24 (.load (.t 23) none),Ob 25 (.bin .neq (.t 20) (.t 24))])
 (.cond (.t 25) (.seq (.region [Ob 4 (.mov (.c (.bool false)))])
 (.ret))
 (.skip))))
 (.region [Ob 15 (.mov (.t 5)),Ob 16 (.bin .add (.t 15) (Ci 1)),Ob 5 (.mov (.t 16))]))))))
 (.seq (.region [Ob 4 (.mov (.c (.bool true)))])
 (.ret))))
def r20 : List Res := [.t 4]
def a20 : AFn := ⟨2, c20, r20,.v⟩

def c21 : ACode := .seq (.region [Ob 1 (.box (.t 0) 5),Ob 2 (.mov (.c (.bool false)))])
 (.seq (.seq (.region [Ob 5 (.addr (.t 1) 1),Ob 6 (.load (.t 5) none),Ob 7 (.len (.t 6)),Ob 8 (.bin .gtr (.t 7) (Ci 20)),Ob 9 (.mov (.t 8)),Og 10 9 false (.addr (.t 1) 3),Og 11 9 false (.load (.t 10) none),Og 12 9 false (.len (.t 11)),Og 13 9 false (.bin .gtr (.t 12) (Ci 20)),Ob 14 (.pick (.t 9) (.c (.bool true)) (.t 13)),Ob 15 (.mov (.t 14)),Og 16 15 false (.addr (.t 1) 4),Og 17 15 false (.load (.t 16) none),Og 18 15 false (.len (.t 17)),Og 19 15 false (.bin .gtr (.t 18) (Ci 20)),Ob 20 (.pick (.t 15) (.c (.bool true)) (.t 19))])
 (.cond (.t 20) (.seq (.region [Ob 2 (.mov (.c (.bool true)))])
 (.ret))
 (.skip)))
 (.seq (.seq (.region [Ob 21 (.load (.t 1) (some 5)),Ob 22 (.call 15 [(.t 21)]),Ob 23 (.bin .neq (.t 22) (Ci 0))])
 (.cond (.t 23) (.seq (.region [Ob 2 (.mov (.c (.bool false)))])
 (.ret))
 (.skip)))
 (.seq (.region [Ob 3 (.mov (Ci 1))])
 (.seq (.seq (.region [Ob 4 (.mov (Ci 0))])
 (.block 0 (.loop (.seq (.seq (.region [Ob 24 (.mov (.t 4)),Ob 25 (.load (.t 1) (some 5)),Ob 26 (.call 39 [(.t 25)]),Ob 27 (.bin .lss (.t 24) (.t 26)),Ob 28 (.mov (.t 27)),Og 29 28 true (.mov (.t 3)),Og 30 28 true (.bin .leq (.t 29) (Ci 800)),Ob 31 (.pick (.t 28) (.t 30) (.c (.bool false)))])
 (.cond (.t 31) (.skip)
 (.exit 0)))
 (.seq (.block 1 (.region [Ob 34 (.mov (.t 3)),Ob 35 (.addr (.t 1) 3),Ob 36 (.load (.t 35) none),Ob 37 (.len (.t 36)),Ob 38 (.bin .add (.t 37) (Ci 1)),Ob 39 (.bin .mul (.t 34) (.t 38)),Ob 3 (.mov (.t 39))]))
 (.region [Ob 32 (.mov (.t 4)),Ob 33 (.bin .add (.t 32) (Ci 1)),Ob 4 (.mov (.t 33))]))))))
 (.seq (.region [Ob 40 (.mov (.t 3)),Ob 41 (.bin .gtr (.t 40) (Ci 800)),Ob 2 (.mov (.t 41))])
 (.ret))))))
def r21 : List Res := [.t 2]
def a21 : AFn := ⟨1, c21, r21,.v⟩

def c22 : ACode := .seq (.region [Ob 1 (.box (.t 0) 5),Ob 2 (.mov (Ci 0)),Ob 3 (.mov (Ci 0))])
 (.seq (.region [Ob 7 (.load (.t 1) (some 5)),Ob 8 (.call 49 [(.t 7)]),Ob 6 (.mov (.t 8)),Ob 9 (.ext (.t 6) 0),Ob 10 (.ext (.t 6) 1),Ob 4 (.new (.agg [(.int .i64 0), (.int .u64 0), (.int .u64 0), (.int .u64 0), (.int .u64 0), (.int .u64 0), (.int .u64 0)]) 7),On (.store (.t 4) (.t 9) 7),Ob 5 (.mov (.t 10))])
 (.seq (.region [Ob 11 (.addr (.t 4) 0),Ob 12 (.addr (.t 11) 0),Ob 13 (.load (.t 12) none),Ob 14 (.mov (.t 5)),Ob 2 (.mov (.t 13)),Ob 3 (.mov (.t 14))])
 (.ret)))
def r22 : List Res := [.t 2,.t 3]
def a22 : AFn := ⟨1, c22, r22,.v⟩

def c23 : ACode := .seq (.region [Ob 1 (.box (.t 0) 5),Ob 2 (.mov (Ci 0)),Ob 3 (.mov (Ci 0))])
 (.seq (.seq (.region [Ob 6 (.load (.t 1) (some 5)),Ob 7 (.call 15 [(.t 6)]),Ob 4 (.mov (.t 7))])
 (.seq (.region [Ob 8 (.mov (.t 4)),Ob 9 (.bin .neq (.t 8) (Ci 0))])
 (.cond (.t 9) (.seq (.region [Ob 10 (.mov (.t 4)),Ob 2 (.mov (Ci 0)),Ob 3 (.mov (.t 10))])
 (.ret))
 (.skip))))
 (.seq (.region [Ob 11 (.load (.t 1) (some 5)),Ob 12 (.call 50 [(.t 11)]),Ob 5 (.mov (.t 12))])
 (.seq (.seq (.region [Ob 13 (.mov (.t 5)),Ob 14 (.bin .lss (.t 13) (Ci 0))])
 (.cond (.t 14) (.seq (.region [Ob 2 (.mov (Ci 0)),Ob 3 (.mov (Ci 3))])
 (.ret))
 (.skip)))
 (.seq (.region [Ob 15 (.mov (.t 5)),Ob 2 (.mov (.t 15)),Ob 3 (.mov (Ci 0))])
 (.ret)))))
def r23 : List Res := [.t 2,.t 3]
def a23 : AFn := ⟨1, c23, r23,.v⟩

def c24 : ACode := .seq (.region [Ob 1 (.boxf (.t 0) 5),Ob 2 (.mov (.c (.sl [] .tight))),Ob 3 (.mov (Ci 0))])
 (.seq (.seq (.region [Ob 7 (.load (.t 1) (some 5)),Ob 8 (.call 14 [(.t 7)]),Ob 4 (.mov (.t 8))])
 (.seq (.region [Ob 9 (.mov (.t 4)),Ob 10 (.bin .neq (.t 9) (Ci 0))])
 (.cond (.t 10) (.seq (.region [Ob 11 (.mov (.t 4)),Ob 2 (.mov (.c (.sl [] .tight))),Ob 3 (.mov (.t 11))])
 (.ret))
 (.skip))))
 (.seq (.regionD [Ob 13 (.load (.t 1) (some 5)),Ob 15 (.load (.t 1) (some 5)),Ob 14 (.call 51 [(.t 13)]),Ob 16 (.call 53 [(.t 15)]),Ob 17 (.call 52 [(.t 14), (.t 16)]),Ob 12 (.mov (.t 17)),Ob 18 (.ext (.t 12) 0),Ob 19 (.ext (.t 12) 1),Ob 5 (.mov (.t 18)),Ob 6 (.mov (.t 19))] [(1, 1)])
 (.seq (.seq (.region [Ob 20 (.mov (.t 6)),Ob 21 (.not (.t 20))])
 (.cond (.t 21) (.seq (.region [Ob 2 (.mov (.c (.sl [] .tight))),Ob 3 (.mov (Ci 3))])
 (.ret))
 (.skip)))
 (.seq (.region [Ob 22 (.mov (.t 5)),Ob 2 (.mov (.t 22)),Ob 3 (.mov (Ci 0))])
 (.ret)))))
def r24 : List Res := [.t 2,.t 3]
def a24 : AFn := ⟨1, c24, r24,.v⟩

def c25 : ACode := .seq (.region [Ob 1 (.box (.t 0) 5),Ob 2 (.mov (.c (.sl [] .tight))),Ob 3 (.mov (Ci 0))])
 (.seq (.seq (.region [Ob 11 (.load (.t 1) (some 5)),Ob 12 (.call 15 [(.t 11)]),Ob 4 (.mov (.t 12))])
 (.seq (.region [Ob 13 (.mov (.t 4)),Ob 14 (.bin .neq (.t 13) (Ci 0))])
 (.cond (.t 14) (.seq (.region [Ob 15 (.mov (.t 4)),Ob 2 (.mov (.c (.sl [] .tight))),Ob 3 (.mov (.t 15))])
 (.ret))
 (.skip))))
 (.seq (.region [Ob 16 (.load (.t 1) (some 5)),Ob 17 (.call 54 [(.t 16)]),Ob 5 (.mov (.t 17))])
 (.seq (.region [Ob 6 (.mov (.c (.sl [] .tight)))])
 (.seq (.seq (.region [Ob 7 (.mov (Ci 1))])
 (.block 0 (.loop (.seq (.seq (.region [Ob 18 (.mov (.t 7)),Ob 19 (.addr (.t 1) 4),Ob 20 (.load (.t 19) none),Ob 21 (.len (.t 20)),Ob 22 (.conv .u64 (.t 21)),Ob 23 (.bin .shl (Ci 1) (.t 22)),Ob 24 (.bin .lss (.t 18) (.t 23))])
 (.cond (.t 24) (.skip)
 (.exit 0)))
 (.seq (.block 1 (.seq (.region [Ob 8 (.mov (.c (.bool false)))])
 (.seq (.seq (.region [Ob 9 (.mov (Ci 0))])
 (.block 2 (.loop (.seq (.seq (.region [Ob 27 (.mov (.t 9)),Ob 28 (.mov (.t 5)),Ob 29 (.len (.t 28)),Ob 30 (.bin .lss (.t 27) (.t 29))])
 (.cond (.t 30) (.skip)
 (.exit 2)))
 (.seq (.block 3 (.region [Ob 33 (.mov (.t 8)),Ob 34 (.mov (.t 33)),Og 35 34 false (.mov (.t 7)),Og 36 34 false (.mov (.t 5)),Og 37 34 false (.mov (.t 9)),Og 38 34 false (.idx (.t 36) (.t 37) 1),Og 39 34 false (.load (.t 38) none),Og 40 34 false (.bin .andNot (.t 35) (.t 39)),Og 41 34 false (.bin .eql (.t 40) (Ci 0)),Ob 42 (.pick (.t 34) (.c (.bool true)) (.t 41)),Ob 8 (.mov (.t 42))]))
 (.region [Ob 31 (.mov (.t 9)),Ob 32 (.bin .add (.t 31) (Ci 1)),Ob 9 (.mov (.t 32))]))))))
 (.seq (.region [Ob 43 (.mov (.t 7)),Ob 44 (.call 55 [(.t 43)]),Ob 10 (.mov (.t 44))])
 (.seq (.region [Ob 45 (.mov (.t 8)),Ob 46 (.not (.t 45)),Ob 47 (.mov (.t 46)),Og 48 47 true (.mov (.t 6)),Og 49 47 true (.len (.t 48)),Og 50 47 true (.bin .eql (.t 49) (Ci 0)),Og 51 47 true (.mov (.t 50)),Og 52 51 false (.mov (.t 10)),Og 53 51 false (.mov (.t 6)),Og 54 51 false (.call 56 [(.t 52), (.t 53)]),Og 55 47 true (.pick (.t 51) (.c (.bool true)) (.t 54)),Ob 56 (.pick (.t 47) (.t 55) (.c (.bool false)))])
 (.cond (.t 56) (.region [Ob 57 (.mov (.t 10)),Ob 6 (.mov (.t 57))])
 (.skip)))))))
 (.region [Ob 25 (.mov (.t 7)),Ob 26 (.bin .add (.t 25) (Ci 1)),Ob 7 (.mov (.t 26))]))))))
 (.seq (.seq (.region [Ob 58 (.mov (.t 6)),Ob 59 (.len (.t 58)),Ob 60 (.bin .eql (.t 59) (Ci 0))])
 (.cond (.t 60) (.seq (.region [Ob 2 (.mov (.c (.sl [] .tight))),Ob 3 (.mov (Ci 3))])
 (.ret))
 (.skip)))
 (.seq (.region [Ob 61 (.mov (.t 6)),Ob 2 (.mov (.t 61)),Ob 3 (.mov (Ci 0))])
 (.ret)))))))
def r25 : List Res := [.t 2,.t 3]
def a25 : AFn := ⟨1, c25, r25,.v⟩

def c26 : ACode := .seq (.region [Ob 2 (.box (.t 0) 5),Ob 4 (.mov (Ci 0)),Ob 5 (.mov (Ci 0))])
 (.seq (.seq (.region [Ob 12 (.load (.t 2) (some 5)),Ob 13 (.call 14 [(.t 12)]),Ob 6 (.mov (.t 13))])
 (.seq (.region [Ob 14 (.mov (.t 6)),Ob 15 (.bin .neq (.t 14) (Ci 0))])
 (.cond (.t 15) (.seq (.region [Ob 16 (.mov (.t 6)),Ob 4 (.mov (Ci 0)),Ob 5 (.mov (.t 16))])
 (.ret))
 (.skip))))
 (.seq (.seq (.region [Ob 17 (.mov (.t 1)),Ob 18 (.addr (.t 2) 4),Ob 19 (.load (.t 18) none),Ob 20 (.len (.t 19)),Ob 21 (.bin .sub (.t 20) (Ci 1)),Ob 22 (.call 57 [(.t 17), (Ci 0), (.t 21)]),Ob 23 (.not (.t 22))])
 (.cond (.t 23) (.seq (.region [Ob 4 (.mov (Ci 0)),Ob 5 (.mov (Ci 1))])
 (.ret))
 (.skip)))
 (.seq (.region [Ob 24 (.load (.t 2) (some 5)),Ob 25 (.call 51 [(.t 24)]),Ob 7 (.mov (.t 25))])
 (.seq (.region [Ob 27 (.mov (.t 7)),Ob 28 (.load (.t 2) (some 5)),Ob 29 (.call 53 [(.t 28)]),Ob 30 (.call 58 [(.t 27), (.t 29)]),Ob 26 (.mov (.t 30)),Ob 31 (.ext (.t 26) 0),Ob 32 (.ext (.t 26) 1),Ob 8 (.mov (.t 31)),Ob 9 (.mov (.t 32))])
 (.seq (.seq (.region [Ob 33 (.mov (.t 9)),Ob 34 (.not (.t 33))])
 (.cond (.t 34) (.seq (.region [Ob 4 (.mov (Ci 0)),Ob 5 (.mov (Ci 3))])
 (.ret))
 (.skip)))
 (.seq (.region [Ob 36 (.mov (.t 7)),Ob 37 (.load (.t 2) (some 5)),Ob 38 (.call 53 [(.t 37)]),Ob 39 (.mov (.t 1)),Ob 40 (.call 59 [(.t 38), (.t 39)]),Ob 41 (.call 58 [(.t 36), (.t 40)]),Ob 35 (.mov (.t 41)),Ob 42 (.ext (.t 35) 0),Ob 43 (.ext (.t 35) 1),Ob 10 (.mov (.t 42)),Ob 11 (.mov (.t 43))])
 (.seq (.region [Ob 44 (.mov (.t 10)),Ob 45 (.mov (.t 8)),Ob 46 (.bin .sub (.t 44) (.t 45)),Ob 4 (.mov (.t 46)),Ob 5 (.mov (Ci 0))])
 (.ret))))))))
def r26 : List Res := [.t 4,.t 5]
def a26 : AFn := ⟨2, c26, r26,.v⟩

def c27 : ACode := .seq (.region [Ob 2 (.box (.t 0) 5),Ob 4 (.mov (Ci 0)),Ob 5 (.mov (Ci 0))])
 (.seq (.seq (.region [Ob 8 (.load (.t 2) (some 5)),Ob 9 (.call 15 [(.t 8)]),Ob 6 (.mov (.t 9))])
 (.seq (.region [Ob 10 (.mov (.t 6)),Ob 11 (.bin .neq (.t 10) (Ci 0))])
 (.cond (.t 11) (.seq (.region [Ob 12 (.mov (.t 6)),Ob 4 (.mov (Ci 0)),Ob 5 (.mov (.t 12))])
 (.ret))
 (.skip))))
 (.seq (.seq (.region [Ob 13 (.mov (.t 1)),Ob 14 (.addr (.t 2) 4),Ob 15 (.load (.t 14) none),Ob 16 (.len (.t 15)),Ob 17 (.bin .sub (.t 16) (Ci 1)),Ob 18 (.call 38 [(.t 13), (Ci 0), (.t 17)]),Ob 19 (.not (.t 18))])
 (.cond (.t 19) (.seq (.region [Ob 4 (.mov (Ci 0)),Ob 5 (.mov (Ci 1))])
 (.ret))
 (.skip)))
 (.seq (.region [Ob 20 (.load (.t 2) (some 5)),Ob 21 (.call 50 [(.t 20)]),Ob 7 (.mov (.t 21))])
 (.seq (.seq (.region [Ob 22 (.mov (.t 7)),Ob 23 (.bin .lss (.t 22) (Ci 0))])
 (.cond (.t 23) (.seq (.region [Ob 4 (.mov (Ci 0)),Ob 5 (.mov (Ci 3))])
 (.ret))
 (.skip)))
 (.seq (.region [Ob 24 (.load (.t 2) (some 5)),Ob 25 (.mov (.t 1)),Ob 26 (.call 32 [(.t 24), (.t 25)]),Ob 27 (.call 50 [(.t 26)]),Ob 28 (.mov (.t 7)),Ob 29 (.bin .sub (.t 27) (.t 28)),Ob 4 (.mov (.t 29)),Ob 5 (.mov (Ci 0))])
 (.ret))))))
def r27 : List Res := [.t 4,.t 5]
def a27 : AFn := ⟨2, c27, r27,.v⟩

def c28 : ACode := .seq (.region [Ob 1 (.box (.t 0) 5),Ob 2 (.mov (.c (.sl [] .tight))),Ob 3 (.mov (Ci 0))])
 (.seq (.region [Ob 7 (.load (.t 1) (some 5)),Ob 8 (.call 49 [(.t 7)]),Ob 6 (.mov (.t 8)),Ob 9 (.ext (.t 6) 0),Ob 10 (.ext (.t 6) 1),Ob 4 (.new (.agg [(.int .i64 0), (.int .u64 0), (.int .u64 0), (.int .u64 0), (.int .u64 0), (.int .u64 0), (.int .u64 0)]) 7),On (.store (.t 4) (.t 9) 7),Ob 5 (.mov (.t 10))])
 (.seq (.seq (.region [Ob 11 (.mov (.t 5)),Ob 12 (.bin .neq (.t 11) (Ci 0))])
 (.cond (.t 12) (.seq (.region [Ob 13 (.mov (.t 5)),Ob 2 (.mov (.c (.sl [] .tight))),Ob 3 (.mov (.t 13))])
 (.ret))
 (.skip)))
 (.seq (.region [Ob 14 (.load (.t 4) (some 7)),Ob 15 (.load (.t 1) (some 5)),Ob 16 (.call 61 [(.t 15)]),Ob 17 (.call 60 [(.t 14), (.t 16)]),Ob 2 (.mov (.t 17)),Ob 3 (.mov (Ci 0))])
 (.ret))))
def r28 : List Res := [.t 2,.t 3]
def a28 : AFn := ⟨1, c28, r28,.v⟩

def c29 : ACode := .seq (.region [Ob 2 (.box (.t 0) 5),Ob 4 (.mov (.c (.bool false)))])
 (.seq (.seq (.region [Ob 5 (.mov (Ci 0))])
 (.block 0 (.loop (.seq (.seq (.region [Ob 6 (.mov (.t 5)),Ob 7 (.mov (.t 1)),Ob 8 (.len (.t 7)),Ob 9 (.bin .lss (.t 6) (.t 8))])
 (.cond (.t 9) (.skip)
 (.exit 0)))
 (.seq (.block 1 (.seq (.region [Ob 12 (.mov (.t 1)),Ob 13 (.mov (.t 5)),Ob 14 (.idx (.t 12) (.t 13) 1),Ob 15 (.load (.t 14) none),Ob 16 (.addr (.t 2) 3),Ob 17 (.load (.t 16) none),Ob 18 (.len (.t 17)),Ob 19 (.bin .sub (.t 18) (Ci 1)),Ob 20 (.call 38 [(.t 15), (Ci (-1)), (.t 19)]),Ob 21 (.not (.t 20))])
 (.cond (.t 21) (.seq (.region [Ob 4 (.mov (.c (.bool false)))])
 (.ret))
 (.skip))))
 (.region [Ob 10 (.mov (.t 5)),Ob 11 (.bin .add (.t 10) (Ci 1)),Ob 5 (.mov (.t 11))]))))))
 (.seq (.region [Ob 22 (.mov (.t 1)),Ob 23 (.len (.t 22)),Ob 24 (.load (.t 2) (some 5)),Ob 25 (.call 39 [(.t 24)]),Ob 26 (.bin .eql (.t 23) (.t 25)),Ob 4 (.mov (.t 26))])
 (.ret)))
def r29 : List Res := [.t 4]
def a29 : AFn := ⟨2, c29, r29,.v⟩

def c30 : ACode := .seq (.region [Ob 1 (.box (.t 0) 5),Ob 2 (.mov (.c (.bool false)))])
 (.seq (.region [Ob 3 (.load (.t 1) (some 5)),Ob 4 (.call 11 [(.t 3)]),Ob 5 (.not (.t 4)),Ob 6 (.mov (.t 5)),Og 7 6 true (.load (.t 1) (some 5)),Og 8 6 true (.call 21 [(.t 7)]),Og 9 6 true (.not (.t 8)),Ob 10 (.pick (.t 6) (.t 9) (.c (.bool false))),Ob 11 (.mov (.t 10)),Og 12 11 true (.load (.t 1) (some 5)),Og 13 11 true (.call 15 [(.t 12)]),Og 14 11 true (.bin .eql (.t 13) (Ci 0)),Ob 15 (.pick (.t 11) (.t 14) (.c (.bool false))),Ob 2 (.mov (.t 15))])
 (.ret))
def r30 : List Res := [.t 2]
def a30 : AFn := ⟨1, c30, r30,.v⟩

def c31 : ACode := .seq (.region [Ob 2 (.boxf (.t 0) 5),Ob 4 (.new (.agg [(.int .i64 0), (.sl [] .tight), (.int .i64 0), (.sl [] .tight), (.sl [] .tight)]) 5)])
 (.seq (.region [Ob 7 (.load (.t 2) (some 5)),Ob 8 (.call 13 [(.t 7)]),Ob 5 (.new (.agg [(.int .i64 0), (.sl [] .tight), (.int .i64 0), (.sl [] .tight), (.sl [] .tight)]) 5),On (.store (.t 5) (.t 8) 5)])
 (.seq (.region [Ob 9 (.addr (.t 5) 4),On (.store (.t 9) (.c (.sl [] .tight)) 1)])
 (.seq (.seq (.region [Ob 6 (.mov (Ci 0))])
 (.block 0 (.loop (.seq (.seq (.region [Ob 10 (.mov (.t 6)),Ob 11 (.mov (.t 1)),Ob 12 (.len (.t 11)),Ob 13 (.bin .lss (.t 10) (.t 12))])
 (.cond (.t 13) (.skip)
 (.exit 0)))
 (.seq (.block 1 (.region [Ob 16 (.addr (.t 5) 4),Ob 17 (.load (.t 16) none),Ob 18 (.addr (.t 2) 4),Ob 19 (.load (.t 18) none),Ob 20 (.mov (.t 1)),Ob 21 (.mov (.t 6)),Ob 22 (.idx (.t 20) (.t 21) 1),Ob 23 (.load (.t 22) none),Ob 24 (.idx (.t 19) (.t 23) 8),Ob 25 (.load (.t 24) (some 8)),Ob 26 (.lit true 47 8 [(.t 25)]),Ob 27 (.app true (.t 17) (.t 26) 47 8 64),Ob 28 (.addr (.t 5) 4),On (.store (.t 28) (.t 27) 1)]))
 (.region [Ob 14 (.mov (.t 6)),Ob 15 (.bin .add (.t 14) (Ci 1)),Ob 6 (.mov (.t 15))]))))))
 (.seq (.region [Ob 29 (.load (.t 5) (some 5)),On (.store (.t 4) (.t 29) 5)])
 (.ret)))))
def r31 : List Res := [.cell 4 (some 5)]
def a31 : AFn := ⟨2, c31, r31,.o⟩

def c32 : ACode := .seq (.region [Ob 2 (.box (.t 0) 5),Ob 4 (.new (.agg [(.int .i64 0), (.sl [] .tight), (.int .i64 0), (.sl [] .tight), (.sl [] .tight)]) 5)])
 (.seq (.region [Ob 6 (.load (.t 2) (some 5)),Ob 7 (.callf 13 [(.t 6)]),Ob 5 (.new (.agg [(.int .i64 0), (.sl [] .tight), (.int .i64 0), (.sl [] .tight), (.sl [] .tight)]) 5),On (.store (.t 5) (.t 7) 5)])
 (.seq (.region [Ob 8 (.lit false 47 8 []),Ob 9 (.addr (.t 2) 4),Ob 10 (.load (.t 9) none),Ob 11 (.mov (.t 1)),Ob 12 (.slice (.t 10) none (some (.t 11)) 8),Ob 14 (.addr (.t 2) 4),Ob 15 (.load (.t 14) none),Ob 16 (.mov (.t 1)),Ob 17 (.bin .add (.t 16) (Ci 1)),Ob 18 (.slice (.t 15) (some (.t 17)) none 8),Ob 13 (.app0 (.t 8) (.t 12) 47 8 64),Ob 19 (.app true (.t 13) (.t 18) 47 8 64),Ob 20 (.addr (.t 5) 4),On (.store (.t 20) (.t 19) 1)])
 (.seq (.region [Ob 21 (.load (.t 5) (some 5)),On (.store (.t 4) (.t 21) 5)])
 (.ret))))
def r32 : List Res := [.cell 4 (some 5)]
def a32 : AFn := ⟨2, c32, r32,.v⟩

def c33 : ACode := .seq (.region [Ob 4 (.box (.t 0) 5),Ob 8 (.mov (Ci 0))])
 (.seq (.region [Ob 9 (.mov (.t 1)),Ob 10 (.addr (.t 4) 1),Ob 11 (.load (.t 10) none),Ob 12 (.len (.t 11)),Ob 13 (.bin .mul (.t 9) (.t 12)),Ob 14 (.mov (.t 2)),Ob 15 (.bin .add (.t 13) (.t 14)),Ob 16 (.addr (.t 4) 2),Ob 17 (.load (.t 16) none),Ob 18 (.bin .mul (.t 15) (.t 17)),Ob 19 (.mov (.t 3)),Ob 20 (.bin .add (.t 18) (.t 19)),Ob 8 (.mov (.t 20))])
 (.ret))
def r33 : List Res := [.t 8]
def a33 : AFn := ⟨4, c33, r33,.v⟩

def c34 : ACode := .seq (.region [Ob 4 (.box (.t 0) 5),Ob 8 (.mov (.c (.bool false)))])
 (.seq (.region [Ob 14 (.load (.t 4) (some 5)),Ob 15 (.mov (.t 1)),Ob 16 (.call 16 [(.t 14), (.t 15)]),Ob 13 (.mov (.t 16)),Ob 17 (.ext (.t 13) 0),Ob 18 (.ext (.t 13) 1),Ob 9 (.mov (.t 17)),Ob 10 (.mov (.t 18))])
 (.seq (.region [Ob 20 (.load (.t 4) (some 5)),Ob 21 (.mov (.t 1)),Ob 22 (.call 18 [(.t 20), (.t 21)]),Ob 19 (.mov (.t 22)),Ob 23 (.ext (.t 19) 0),Ob 24 (.ext (.t 19) 1),Ob 11 (.mov (.t 23)),Ob 12 (.mov (.t 24))])
 (.seq (.region [Ob 25 (.mov (.t 10)),Ob 26 (.bin .eql (.t 25) (Ci 0)),Ob 27 (.mov (.t 26)),Og 28 27 true (.mov (.t 12)),Og 29 27 true (.bin .eql (.t 28) (Ci 0)),Ob 30 (.pick (.t 27) (.t 29) (.c (.bool false))),Ob 31 (.mov (.t 30)),Og 32 31 true (.mov (.t 9)),Og 33 31 true (.mov (.t 2)),Og 34 31 true (.call 20 [(.t 32), (.t 33)]),Ob 35 (.pick (.t 31) (.t 34) (.c (.bool false))),Ob 36 (.mov (.t 35)),Og 37 36 true (.mov (.t 11)),Og 38 36 true (.mov (.t 3)),Og 39 36 true (.bin .eql (.t 37) (.t 38)),Ob 40 (.pick (.t 36) (.t 39) (.c (.bool false))),Ob 8 (.mov (.t 40))])
 (.ret))))
def r34 : List Res := [.t 8]
def a34 : AFn := ⟨4, c34, r34,.v⟩

def c35 : ACode := .seq (.region [Ob 0 (.new (.agg [(.int .i64 0), (.sl [] .tight), (.int .i64 0), (.sl [] .tight), (.sl [] .tight)]) 5)])
 (.seq (.region [Ob 1 (.lit false 3 1 [(Ci 100), (Ci 50)]),Ob 2 (.lit false 3 1 [(Ci 80), (Ci 120)]),Ob 3 (.build [(.int .i64 0), (.sl [] .tight)] [(0, 1, (Ci 10)), (1, 1, (.t 2))]),Ob 4 (.lit false 3 1 [(Ci 40), (Ci 90)]),Ob 5 (.build [(.int .i64 0), (.sl [] .tight)] [(0, 1, (Ci 8)), (1, 1, (.t 4))]),Ob 6 (.lit false 55 2 [(.t 3), (.t 5)]),Ob 7 (.build [(.int .i64 0), (.int .i64 0), (.int .i64 0), (.int .i64 0), (.int .i64 0), (.int .i64 0), (.int .i64 0), (.int .i64 0)] [(0, 1, (Ci 1)), (1, 1, (Ci 1)), (5, 1, (Ci 1)), (7, 1, (Ci 2))]),Ob 8 (.build [(.int .i64 0), (.int .i64 0), (.int .i64 0), (.int .i64 0), (.int .i64 0), (.int .i64 0), (.int .i64 0), (.int .i64 0)] [(0, 1, (Ci 3)), (5, 1, (Ci 1)), (6, 1, (Ci 100))]),Ob 9 (.lit false 47 8 [(.t 7), (.t 8)]),Ob 10 (.build [(.int .i64 0), (.sl [] .tight), (.int .i64 0), (.sl [] .tight), (.sl [] .tight)] [(0, 1, (Ci 1)), (1, 1, (.t 1)), (2, 1, (Ci 2)), (3, 1, (.t 6)), (4, 1, (.t 9))]),On (.store (.t 0) (.t 10) 5)])
 (.ret))
def r35 : List Res := [.cell 0 (some 5)]
def a35 : AFn := ⟨0, c35, r35,.v⟩

def c36 : ACode := .seq (.region [Ob 1 (.box (.t 0) 5),Ob 2 (.mov (.c (.bool false)))])
 (.seq (.region [Ob 3 (.new .nilf 1),On (.store (.t 3) (.c (.fn 62 [] [])) 1)])
 (.seq (.region [Ob 5 (.clo 63 [] [(.t 1), (.t 3)]),Ob 4 (.mov (.t 5))])
 (.seq (.region [Ob 6 (.load (.t 1) (some 5)),Ob 7 (.call 65 [(.t 6)]),Ob 8 (.mov (.t 7)),Og 9 8 true (.addr (.t 1) 3),Og 10 8 true (.load (.t 9) none),Og 11 8 true (.len (.t 10)),Og 12 8 true (.bin .leq (.t 11) (Ci 4)),Ob 13 (.pick (.t 8) (.t 12) (.c (.bool false))),Ob 14 (.mov (.t 13)),Og 15 14 true (.addr (.t 1) 3),Og 16 14 true (.load (.t 15) none),Og 17 14 true (.mov (.t 4)),Og 18 14 true (.call 66 [(.t 16), (.t 17)]),Ob 19 (.pick (.t 14) (.t 18) (.c (.bool false))),Ob 20 (.mov (.t 19)),Og 21 20 true (.addr (.t 1) 4),Og 22 20 true (.load (.t 21) none),Og 23 20 true (.len (.t 22)),Og 24 20 true (.bin .leq (.t 23) (Ci 8)),Ob 25 (.pick (.t 20) (.t 24) (.c (.bool false))),Ob 2 (.mov (.t 25))])
 (.ret))))
def r36 : List Res := [.t 2]
def a36 : AFn := ⟨1, c36, r36,.v⟩

def c37 : ACode := .seq (.region [Ob 1 (.box (.t 0) 5),Ob 2 (.mov (.c (.bool false)))])
 (.seq (.region [Ob 3 (.addr (.t 1) 4),Ob 4 (.load (.t 3) none),Ob 5 (.clo 68 [] [(.t 1)]),Ob 6 (.call 67 [(.t 4), (.t 5)]),Ob 2 (.mov (.t 6))])
 (.ret))
def r37 : List Res := [.t 2]
def a37 : AFn := ⟨1, c37, r37,.v⟩

def c38 : ACode := .seq (.region [Ob 6 (.mov (.c (.bool false)))])
 (.seq (.region [Ob 7 (.mov (.t 0)),Ob 8 (.mov (.t 1)),Ob 9 (.bin .geq (.t 7) (.t 8)),Ob 10 (.mov (.t 9)),Og 11 10 true (.mov (.t 0)),Og 12 10 true (.mov (.t 2)),Og 13 10 true (.bin .leq (.t 11) (.t 12)),Ob 14 (.pick (.t 10) (.t 13) (.c (.bool false))),Ob 6 (.mov (.t 14))])
 (.ret))
def r38 : List Res := [.t 6]
def a38 : AFn := ⟨3, c38, r38,.v⟩

def c39 : ACode := .seq (.region [Ob 1 (.box (.t 0) 5),Ob 2 (.mov (Ci 0))])
 (.seq (.region [Ob 3 (.addr (.t 1) 0),Ob 4 (.load (.t 3) none),Ob 5 (.addr (.t 1) 1),Ob 6 (.load (.t 5) none),Ob 7 (.len (.t 6)),Ob 8 (.bin .mul (.t 4) (.t 7)),Ob 9 (.addr (.t 1) 2),Ob 10 (.load (.t 9) none),Ob 11 (.bin .mul (.t 8) (.t 10)),Ob 2 (.mov (.t 11))])
 (.ret))
def r39 : List Res := [.t 2]
def a39 : AFn := ⟨1, c39, r39,.v⟩

def c40 : ACode := .seq (.region [Ob 3 (.box (.t 1) 2),Ob 4 (.mov (.c (.bool false)))])
 (.seq (.seq (.region [Ob 6 (.addr (.t 3) 0),Ob 7 (.load (.t 6) none),Ob 8 (.call 38 [(.t 7), (Ci 0), (Ci 100)]),Ob 9 (.not (.t 8)),Ob 10 (.mov (.t 9)),Og 11 10 false (.addr (.t 3) 1),Og 12 10 false (.load (.t 11) none),Og 13 10 false (.len (.t 12)),Og 14 10 false (.mov (.t 0)),Og 15 10 false (.bin .neq (.t 13) (.t 14)),Ob 16 (.pick (.t 10) (.c (.bool true)) (.t 15))])
 (.cond (.t 16) (.seq (.region [Ob 4 (.mov (.c (.bool false)))])
 (.ret))
 (.skip)))
 (.seq (.seq (.region [Ob 5 (.mov (Ci 0))])
 (.block 0 (.loop (.seq (.seq (.region [Ob 17 (.mov (.t 5)),Ob 18 (.mov (.t 0)),Ob 19 (.bin .lss (.t 17) (.t 18))])
 (.cond (.t 19) (.skip)
 (.exit 0)))
 (.seq (.block 1 (.seq (.region [Ob 22 (.addr (.t 3) 1),Ob 23 (.load (.t 22) none),Ob 24 (.mov (.t 5)),Ob 25 (.idx (.t 23) (.t 24) 1),Ob 26 (.load (.t 25) none),Ob 27 (.call 38 [(.t 26), (Ci 0), (Ci 999)]),Ob 28 (.not (.t 27))])
 (.cond (.t 28) (.seq (.region [Ob 4 (.mov (.c (.bool false)))])
 (.ret))
 (.skip))))
 (.region [Ob 20 (.mov (.t 5)),Ob 21 (.bin .add (.t 20) (Ci 1)),Ob 5 (.mov (.t 21))]))))))
 (.seq (.region [Ob 4 (.mov (.c (.bool true)))])
 (.ret))))
def r40 : List Res := [.t 4]
def a40 : AFn := ⟨2, c40, r40,.v⟩

def c41 : ACode := .seq (.region [Ob 2 (.box (.t 0) 5),Ob 3 (.box (.t 1) 8),Ob 4 (.mov (.c (.bool false)))])
 (.seq (.seq (.region [Ob 5 (.addr (.t 3) 0),Ob 6 (.load (.t 5) none),Ob 7 (.call 38 [(.t 6), (Ci 1), (Ci 5)]),Ob 8 (.not (.t 7)),Ob 9 (.mov (.t 8)),Og 10 9 false (.addr (.t 3) 1),Og 11 9 false (.load (.t 10) none),Og 12 9 false (.addr (.t 2) 3),Og 13 9 false (.load (.t 12) none),Og 14 9 false (.len (.t 13)),Og 15 9 false (.bin .sub (.t 14) (Ci 1)),Og 16 9 false (.call 38 [(.t 11), (Ci 0), (.t 15)]),Og 17 9 false (.not (.t 16)),Ob 18 (.pick (.t 9) (.c (.bool true)) (.t 17)),Ob 19 (.mov (.t 18)),Og 20 19 false (.addr (.t 3) 7),Og 21 19 false (.load (.t 20) none),Og 22 19 false (.call 38 [(.t 21), (Ci 0), (Ci 8)]),Og 23 19 false (.not (.t 22)),Ob 24 (.pick (.t 19) (.c (.bool true)) (.t 23)),Ob 25 (.mov (.t 24)),Og 26 25 false (.addr (.t 3) 7),Og 27 25 false (.load (.t 26) none),Og 28 25 false (.bin .neq (.t 27) (Ci 0)),Og 29 25 false (.mov (.t 28)),Og 30 29 true (.addr (.t 3) 0),Og 31 29 true (.load (.t 30) none),Og 32 29 true (.bin .neq (.t 31) (Ci 1)),Og 33 25 false (.pick (.t 29) (.t 32) (.c (.bool false))),Og 34 25 false (.mov (.t 33)),Og 35 34 true (.addr (.t 3) 0),Og 36 34 true (.load (.t 35) none),Og 37 34 true (.bin .neq (.t 36) (Ci 2)),Og 38 25 false (.pick (.t 34) (.t 37) (.c (.bool false))),Ob 39 (.pick (.t 25) (.c (.bool true)) (.t 38))])
 (.cond (.t 39) (.seq (.region [Ob 4 (.mov (.c (.bool false)))])
 (.ret))
 (.skip)))
 (.seq (.region [Ob 40 (.addr (.t 3) 2),Ob 41 (.load (.t 40) none),Ob 42 (.addr (.t 3) 3),Ob 43 (.load (.t 42) none),Ob 44 (.call 38 [(.t 41), (Ci 0), (.t 43)]),Ob 45 (.mov (.t 44)),Og 46 45 true (.addr (.t 3) 3),Og 47 45 true (.load (.t 46) none),Og 48 45 true (.addr (.t 2) 0),Og 49 45 true (.load (.t 48) none),Og 50 45 true (.bin .lss (.t 47) (.t 49)),Ob 51 (.pick (.t 45) (.t 50) (.c (.bool false))),Ob 52 (.mov (.t 51)),Og 53 52 true (.addr (.t 3) 4),Og 54 52 true (.load (.t 53) none),Og 55 52 true (.addr (.t 3) 5),Og 56 52 true (.load (.t 55) none),Og 57 52 true (.call 38 [(.t 54), (Ci 0), (.t 56)]),Ob 58 (.pick (.t 52) (.t 57) (.c (.bool false))),Ob 59 (.mov (.t 58)),Og 60 59 true (.addr (.t 3) 5),Og 61 59 true (.load (.t 60) none),Og 62 59 true (.addr (.t 2) 2),Og 63 59 true (.load (.t 62) none),Og 64 59 true (.bin .lss (.t 61) (.t 63)),Ob 65 (.pick (.t 59) (.t 64) (.c (.bool false))),Ob 66 (.mov (.t 65)),Og 67 66 true (.addr (.t 3) 6),Og 68 66 true (.load (.t 67) none),Og 69 66 true (.call 38 [(.t 68), (Ci 0), (Ci 500)]),Ob 70 (.pick (.t 66) (.t 69) (.c (.bool false))),Ob 4 (.mov (.t 70))])
 (.ret)))
def r41 : List Res := [.t 4]
def a41 : AFn := ⟨2, c41, r41,.v⟩

def c42 : ACode := .seq (.region [Ob 2 (.box (.t 0) 5),Ob 4 (.mov (Ci 0))])
 (.seq (.seq (.region [Ob 7 (.load (.t 2) (some 5)),Ob 8 (.call 14 [(.t 7)]),Ob 5 (.mov (.t 8))])
 (.seq (.region [Ob 9 (.mov (.t 5)),Ob 10 (.bin .neq (.t 9) (Ci 0))])
 (.cond (.t 10) (.seq (.region [Ob 11 (.mov (.t 5)),Ob 4 (.mov (.t 11))])
 (.ret))
 (.skip))))
 (.seq (.region [Ob 12 (.clo 70 [] [(.t 2)]),Ob 6 (.mov (.t 12))])
 (.seq (.seq (.region [Ob 13 (.mov (.t 1)),Ob 14 (.len (.t 13)),Ob 15 (.load (.t 2) (some 5)),Ob 16 (.call 61 [(.t 15)]),Ob 17 (.bin .neq (.t 14) (.t 16)),Ob 18 (.mov (.t 17)),Og 19 18 false (.mov (.t 1)),Og 20 18 false (.mov (.t 6)),Og 21 18 false (.call 64 [(.t 19), (.t 20)]),Og 22 18 false (.not (.t 21)),Ob 23 (.pick (.t 18) (.c (.bool true)) (.t 22))])
 (.cond (.t 23) (.seq (.region [Ob 4 (.mov (Ci 52))])
 (.ret))
 (.skip)))
 (.seq (.region [Ob 4 (.mov (Ci 0))])
 (.ret)))))
def r42 : List Res := [.t 4]
def a42 : AFn := ⟨2, c42, r42,.v⟩

def c43 : ACode := .seq (.region [Ob 3 (.box (.t 0) 5),Ob 4 (.box (.t 1) 8),Ob 6 (.mov (.c (.bool false)))])
 (.seq (.region [Ob 7 (.new (.int .i64 0) 1),Ob 8 (.new (.int .i64 0) 1),Ob 9 (.new (.int .i64 0) 1),On (.store (.t 7) (Ci 0) 1),On (.store (.t 8) (Ci 8) 1),On (.store (.t 9) (Ci 0) 1)])
 (.seq (.seq (.region [Ob 11 (.load (.t 3) (some 5)),Ob 12 (.load (.t 4) (some 8)),Ob 13 (.mov (.t 2)),Ob 14 (.call 71 [(.t 11), (.t 12), (.t 13)])])
 (.block 0 (.range (.t 14) [15] (.region [Ob 10 (.mov (.t 15))])
 (.block 1 (.regionD [Ob 16 (.load (.t 7) none),Ob 17 (.mov (.t 10)),Ob 18 (.bin .add (.t 16) (.t 17)),Ob 19 (.load (.t 8) none),Ob 20 (.mov (.t 10)),Ob 21 (.mnx false (.t 19) (.t 20)),Ob 22 (.load (.t 9) none),Ob 23 (.mov (.t 10)),Ob 24 (.mnx true (.t 22) (.t 23)),On (.store (.t 7) (.t 18) 1),On (.store (.t 8) (.t 21) 1),On (.store (.t 9) (.t 24) 1)] [(8, 7), (9, 7), (9, 8)])))))
 (.seq (.seq (.region [Ob 25 (.addr (.t 4) 0),Ob 26 (.load (.t 25) none)])
 (.block 2 (.seq (.region [Ob 28 (.bin .eql (.t 26) (Ci 1)),Ob 27 (.mov (.t 28))])
 (.cond (.t 27) (.seq (.region [Ob 29 (.load (.t 7) none),Ob 30 (.addr (.t 4) 7),Ob 31 (.load (.t 30) none),Ob 32 (.bin .geq (.t 29) (.t 31)),Ob 6 (.mov (.t 32))])
 (.ret))
 (.seq (.region [Ob 34 (.bin .eql (.t 26) (Ci 2)),Ob 33 (.mov (.t 34))])
 (.cond (.t 33) (.seq (.region [Ob 35 (.load (.t 7) none),Ob 36 (.addr (.t 4) 7),Ob 37 (.load (.t 36) none),Ob 38 (.bin .leq (.t 35) (.t 37)),Ob 6 (.mov (.t 38))])
 (.ret))
 (.seq (.region [Ob 40 (.bin .eql (.t 26) (Ci 4)),Ob 39 (.mov (.t 40))])
 (.cond (.t 39) (.seq (.region [Ob 41 (.load (.t 9) none),Ob 42 (.bin .leq (.t 41) (Ci 1)),Ob 6 (.mov (.t 42))])
 (.ret))
 (.seq (.region [Ob 44 (.bin .eql (.t 26) (Ci 5)),Ob 43 (.mov (.t 44))])
 (.cond (.t 43) (.seq (.region [Ob 45 (.load (.t 8) none),Ob 46 (.bin .geq (.t 45) (Ci 1)),Ob 6 (.mov (.t 46))])
 (.ret))
 (.skip)))))))))))
 (.seq (.region [Ob 47 (.load (.t 3) (some 5)),Ob 48 (.load (.t 4) (some 8)),Ob 49 (.mov (.t 2)),Ob 50 (.call 72 [(.t 47), (.t 48), (.t 49)]),Ob 6 (.mov (.t 50))])
 (.ret)))))
def r43 : List Res := [.t 6]
def a43 : AFn := ⟨3, c43, r43,.v⟩

def c44 : ACode := .seq (.region [Ob 4 (.mov (.c (.int .u64 0)))])
 (.seq (.region [Ob 5 (.mov (.c (.int .u64 0)))])
 (.seq (.seq (.region [Ob 8 (.mov (.t 0)),Ob 9 (.len (.t 8)),Ob 10 (.mov (Ci 0))])
 (.block 0 (.loop (.seq (.region [Ob 11 (.bin .lss (.t 10) (.t 9))])
 (.seq (.cond (.t 11) (.skip)
 (.exit 0))
 (.seq (.block 1 (.seq (.region [Ob 12 (.mov (.t 10)),Ob 13 (.idx (.t 8) (.t 10) 1),Ob 14 (.load (.t 13) none),Ob 6 (.mov (.t 12)),Ob 7 (.mov (.t 14))])
 (.seq (.region [Ob 15 (.mov (.t 7)),Ob 16 (.mov (.t 1)),Ob 17 (.bin .eql (.t 15) (.t 16))])
 (.cond (.t 17) (.region [Ob 18 (.mov (.t 5)),Ob 19 (.mov (.t 6)),Ob 20 (.call 73 [(.t 18), (.t 19)]),Ob 5 (.mov (.t 20))])
 (.skip)))))
 (.region [Ob 21 (.bin .add (.t 10) (Ci 1)),Ob 10 (.mov (.t 21))])))))))
 (.seq (.region [Ob 22 (.mov (.t 5)),Ob 4 (.mov (.t 22))])
 (.ret))))
def r44 : List Res := [.t 4]
def a44 : AFn := ⟨2, c44, r44,.v⟩

def c45 : ACode := .seq (.region [Ob 2 (.box (.t 0) 5),Ob 4 (.mov (Ci 0))])
 (.seq (.seq (.region [Ob 6 (.load (.t 2) (some 5)),Ob 7 (.call 15 [(.t 6)]),Ob 5 (.mov (.t 7))])
 (.seq (.region [Ob 8 (.mov (.t 5)),Ob 9 (.bin .neq (.t 8) (Ci 0))])
 (.cond (.t 9) (.seq (.region [Ob 10 (.mov (.t 5)),Ob 4 (.mov (.t 10))])
 (.ret))
 (.skip))))
 (.seq (.seq (.region [Ob 11 (.load (.t 2) (some 5)),Ob 12 (.mov (.t 1)),Ob 13 (.call 29 [(.t 11), (.t 12)]),Ob 14 (.not (.t 13))])
 (.cond (.t 14) (.seq (.region [Ob 4 (.mov (Ci 52))])
 (.ret))
 (.skip)))
 (.seq (.region [Ob 4 (.mov (Ci 0))])
 (.ret))))
def r45 : List Res := [.t 4]
def a45 : AFn := ⟨2, c45, r45,.v⟩

def c46 : ACode := .seq (.region [Ob 2 (.box (.t 0) 5),Ob 4 (.mov (.c (.sl [] .tight)))])
 (.seq (.region [Ob 5 (.mov (.c (.sl [] .tight)))])
 (.seq (.seq (.region [Ob 6 (.mov (Ci 0))])
 (.block 0 (.loop (.seq (.seq (.region [Ob 7 (.mov (.t 6)),Ob 8 (.addr (.t 2) 4),Ob 9 (.load (.t 8) none),Ob 10 (.len (.t 9)),Ob 11 (.bin .lss (.t 7) (.t 10))])
 (.cond (.t 11) (.skip)
 (.exit 0)))
 (.seq (.block 1 (.seq (.region [Ob 14 (.load (.t 2) (some 5)),Ob 15 (.mov (.t 1)),Ob 16 (.addr (.t 2) 4),Ob 17 (.load (.t 16) none),Ob 18 (.mov (.t 6)),Ob 19 (.idx (.t 17) (.t 18) 8),Ob 20 (.load (.t 19) (some 8)),Ob 21 (.call 74 [(.t 14), (.t 15), (.t 20)]),Ob 22 (.not (.t 21))])
 (.cond (.t 22) (.region [Ob 23 (.mov (.t 5)),Ob 24 (.mov (.t 6)),Ob 25 (.lit false 3 1 [(.t 24)]),Ob 26 (.app false (.t 23) (.t 25) 3 1 8),Ob 5 (.mov (.t 26))])
 (.skip))))
 (.region [Ob 12 (.mov (.t 6)),Ob 13 (.bin .add (.t 12) (Ci 1)),Ob 6 (.mov (.t 13))]))))))
 (.seq (.region [Ob 27 (.mov (.t 5)),Ob 4 (.mov (.t 27))])
 (.ret))))
def r46 : List Res := [.t 4]
def a46 : AFn := ⟨2, c46, r46,.v⟩

def c47 : ACode := .seq (.region [Ob 3 (.box (.t 0) 5),Ob 6 (.mov (Ci 0))])
 (.seq (.region [Ob 7 (.mov (Ci 0))])
 (.seq (.seq (.region [Ob 12 (.mov (.t 2)),Ob 13 (.call 75 [(.t 12)]),Ob 14 (.len (.t 13)),Ob 15 (.mov (Ci 0))])
 (.block 0 (.loop (.seq (.region [Ob 16 (.bin .lss (.t 15) (.t 14))])
 (.seq (.cond (.t 16) (.skip)
 (.exit 0))
 (.seq (.block 1 (.seq (.region [Ob 17 (.idx (.t 13) (.t 15) 1),Ob 18 (.load (.t 17) none),Ob 9 (.mov (.t 18))])
 (.seq (.region [Ob 19 (.mov (.t 9)),Ob 20 (.addr (.t 3) 2),Ob 21 (.load (.t 20) none),Ob 22 (.bin .rem (.t 19) (.t 21)),Ob 23 (.mov (.t 9)),Ob 24 (.addr (.t 3) 2),Ob 25 (.load (.t 24) none),Ob 26 (.bin .quo (.t 23) (.t 25)),Ob 27 (.addr (.t 3) 1),Ob 28 (.load (.t 27) none),Ob 29 (.len (.t 28)),Ob 30 (.bin .rem (.t 26) (.t 29)),Ob 10 (.mov (.t 22)),Ob 11 (.mov (.t 30))])
 (.region [Ob 31 (.mov (.t 7)),Ob 32 (.addr (.t 3) 3),Ob 33 (.load (.t 32) none),Ob 34 (.mov (.t 1)),Ob 35 (.idx (.t 33) (.t 34) 2),Ob 36 (.addr (.t 35) 1),Ob 37 (.load (.t 36) none),Ob 38 (.mov (.t 10)),Ob 39 (.idx (.t 37) (.t 38) 1),Ob 40 (.load (.t 39) none),Ob 41 (.addr (.t 3) 1),Ob 42 (.load (.t 41) none),Ob 43 (.mov (.t 11)),Ob 44 (.idx (.t 42) (.t 43) 1),Ob 45 (.load (.t 44) none),Ob 46 (.mnx false (.t 40) (.t 45)),Ob 47 (.bin .add (.t 31) (.t 46)),Ob 7 (.mov (.t 47))]))))
 (.region [Ob 48 (.bin .add (.t 15) (Ci 1)),Ob 15 (.mov (.t 48))])))))))
 (.seq (.region [Ob 49 (.mov (.t 7)),Ob 50 (.addr (.t 3) 3),Ob 51 (.load (.t 50) none),Ob 52 (.mov (.t 1)),Ob 53 (.idx (.t 51) (.t 52) 2),Ob 54 (.addr (.t 53) 0),Ob 55 (.load (.t 54) none),Ob 56 (.bin .mul (.t 49) (.t 55)),Ob 6 (.mov (.t 56))])
 (.ret))))
def r47 : List Res := [.t 6]
def a47 : AFn := ⟨3, c47, r47,.v⟩

def c48 : ACode := .seq (.region [Ob 2 (.box (.t 0) 5),Ob 4 (.mov (Ci 0))])
 (.seq (.region [Ob 5 (.mov (Ci 0))])
 (.seq (.seq (.region [Ob 6 (.mov (Ci 0))])
 (.block 0 (.loop (.seq (.seq (.region [Ob 10 (.mov (.t 6)),Ob 11 (.addr (.t 2) 0),Ob 12 (.load (.t 11) none),Ob 13 (.bin .lss (.t 10) (.t 12))])
 (.cond (.t 13) (.skip)
 (.exit 0)))
 (.seq (.block 1 (.seq (.region [Ob 7 (.mov (Ci 0))])
 (.block 2 (.loop (.seq (.seq (.region [Ob 16 (.mov (.t 7)),Ob 17 (.addr (.t 2) 1),Ob 18 (.load (.t 17) none),Ob 19 (.len (.t 18)),Ob 20 (.bin .lss (.t 16) (.t 19))])
 (.cond (.t 20) (.skip)
 (.exit 2)))
 (.seq (.block 3 (.seq (.region [Ob 8 (.mov (Ci 0))])
 (.block 4 (.loop (.seq (.seq (.region [Ob 23 (.mov (.t 8)),Ob 24 (.addr (.t 2) 2),Ob 25 (.load (.t 24) none),Ob 26 (.bin .lss (.t 23) (.t 25))])
 (.cond (.t 26) (.skip)
 (.exit 4)))
 (.seq (.block 5 (.seq (.region [Ob 29 (.mov (.t 1)),Ob 30 (.load (.t 2) (some 5)),Ob 31 (.mov (.t 6)),Ob 32 (.mov (.t 7)),Ob 33 (.mov (.t 8)),Ob 34 (.call 33 [(.t 30), (.t 31), (.t 32), (.t 33)]),Ob 35 (.idx (.t 29) (.t 34) 1),Ob 36 (.load (.t 35) none),Ob 9 (.mov (.t 36))])
 (.seq (.region [Ob 37 (.mov (.t 9)),Ob 38 (.bin .neq (.t 37) (Ci (-1)))])
 (.cond (.t 38) (.region [Ob 39 (.mov (.t 5)),Ob 40 (.addr (.t 2) 3),Ob 41 (.load (.t 40) none),Ob 42 (.mov (.t 9)),Ob 43 (.idx (.t 41) (.t 42) 2),Ob 44 (.addr (.t 43) 0),Ob 45 (.load (.t 44) none),Ob 46 (.addr (.t 2) 3),Ob 47 (.load (.t 46) none),Ob 48 (.mov (.t 9)),Ob 49 (.idx (.t 47) (.t 48) 2),Ob 50 (.addr (.t 49) 1),Ob 51 (.load (.t 50) none),Ob 52 (.mov (.t 8)),Ob 53 (.idx (.t 51) (.t 52) 1),Ob 54 (.load (.t 53) none),Ob 55 (.addr (.t 2) 1),Ob 56 (.load (.t 55) none),Ob 57 (.mov (.t 7)),Ob 58 (.idx (.t 56) (.t 57) 1),Ob 59 (.load (.t 58) none),Ob 60 (.mnx false (.t 54) (.t 59)),Ob 61 (.bin .mul (.t 45) (.t 60)),Ob 62 (.bin .add (.t 39) (.t 61)),Ob 5 (.mov (.t 62))])
 (.skip)))))
 (.region [Ob 27 (.mov (.t 8)),Ob 28 (.bin .add (.t 27) (Ci 1)),Ob 8 (.mov (.t 28))])))))))
 (.region [Ob 21 (.mov (.t 7)),Ob 22 (.bin .add (.t 21) (Ci 1)),Ob 7 (.mov (.t 22))])))))))
 (.region [Ob 14 (.mov (.t 6)),Ob 15 (.bin .add (.t 14) (Ci 1)),Ob 6 (.mov (.t 15))]))))))
 (.seq (.region [Ob 63 (.mov (.t 5)),Ob 4 (.mov (.t 63))])
 (.ret))))
def r48 : List Res := [.t 4]
def a48 : AFn := ⟨2, c48, r48,.v⟩

def c49 : ACode := .seq (.region [Ob 1 (.boxf (.t 0) 5),Ob 2 (.new (.agg [(.int .i64 0), (.int .u64 0), (.int .u64 0), (.int .u64 0), (.int .u64 0), (.int .u64 0), (.int .u64 0)]) 7),Ob 3 (.mov (Ci 0))])
 (.seq (.seq (.region [Ob 7 (.load (.t 1) (some 5)),Ob 8 (.call 14 [(.t 7)]),Ob 4 (.mov (.t 8))])
 (.seq (.region [Ob 9 (.mov (.t 4)),Ob 10 (.bin .neq (.t 9) (Ci 0))])
 (.cond (.t 10) (.seq (.region [Ob 11 (.build [(.int .i64 0), (.int .u64 0), (.int .u64 0), (.int .u64 0), (.int .u64 0), (.int .u64 0), (.int .u64 0)] []),Ob 12 (.mov (.t 4)),On (.store (.t 2) (.t 11) 7),Ob 3 (.mov (.t 12))])
 (.ret))
 (.skip))))
 (.seq (.regionD [Ob 14 (.load (.t 1) (some 5)),Ob 16 (.load (.t 1) (some 5)),On (.mov (.c .undef)),Ob 15 (.call 51 [(.t 14)]),Ob 17 (.call 53 [(.t 16)]),Ob 18 (.mget .i (.agg [(.int .i64 0), (.int .u64 0), (.int .u64 0), (.int .u64 0), (.int .u64 0), (.int .u64 0), (.int .u64 0)]) true (.t 15) (.t 17)),Ob 13 (.mov (.t 18)),Ob 19 (.ext (.t 13) 0),Ob 20 (.ext (.t 13) 1),Ob 5 (.box (.t 19) 7),Ob 6 (.mov (.t 20))] [(1, 1)])
 (.seq (.seq (.region [Ob 21 (.mov (.t 6)),Ob 22 (.not (.t 21))])
 (.cond (.t 22) (.seq (.region [Ob 23 (.build [(.int .i64 0), (.int .u64 0), (.int .u64 0), (.int .u64 0), (.int .u64 0), (.int .u64 0), (.int .u64 0)] []),On (.store (.t 2) (.t 23) 7),Ob 3 (.mov (Ci 3))])
 (.ret))
 (.skip)))
 (.seq (.region [Ob 24 (.load (.t 5) (some 7)),On (.store (.t 2) (.t 24) 7),Ob 3 (.mov (Ci 0))])
 (.ret)))))
def r49 : List Res := [.cell 2 (some 7),.t 3]
def a49 : AFn := ⟨1, c49, r49,.v⟩

def c50 : ACode := .seq (.region [Ob 1 (.box (.t 0) 5),Ob 2 (.mov (Ci 0))])
 (.seq (.region [Ob 3 (.mov (Ci (-1)))])
 (.seq (.region [Ob 6 (.load (.t 1) (some 5)),Ob 7 (.call 76 [(.t 6), (.c (.sl [] .tight))]),Ob 4 (.mov (.t 7))])
 (.seq (.seq (.region [Ob 5 (.mov (Ci 0))])
 (.block 0 (.loop (.seq (.seq (.region [Ob 8 (.mov (.t 5)),Ob 9 (.mov (.t 4)),Ob 10 (.len (.t 9)),Ob 11 (.bin .lss (.t 8) (.t 10))])
 (.cond (.t 11) (.skip)
 (.exit 0)))
 (.seq (.block 1 (.seq (.region [Ob 14 (.load (.t 1) (some 5)),Ob 15 (.mov (.t 4)),Ob 16 (.mov (.t 5)),Ob 17 (.idx (.t 15) (.t 16) 1),Ob 18 (.load (.t 17) none),Ob 19 (.call 46 [(.t 14), (.t 18)]),Ob 20 (.len (.t 19)),Ob 21 (.bin .eql (.t 20) (Ci 0))])
 (.cond (.t 21) (.region [Ob 22 (.mov (.t 3)),Ob 23 (.load (.t 1) (some 5)),Ob 24 (.mov (.t 4)),Ob 25 (.mov (.t 5)),Ob 26 (.idx (.t 24) (.t 25) 1),Ob 27 (.load (.t 26) none),Ob 28 (.call 48 [(.t 23), (.t 27)]),Ob 29 (.mnx true (.t 22) (.t 28)),Ob 3 (.mov (.t 29))])
 (.skip))))
 (.region [Ob 12 (.mov (.t 5)),Ob 13 (.bin .add (.t 12) (Ci 1)),Ob 5 (.mov (.t 13))]))))))
 (.seq (.region [Ob 30 (.mov (.t 3)),Ob 2 (.mov (.t 30))])
 (.ret)))))
def r50 : List Res := [.t 2]
def a50 : AFn := ⟨1, c50, r50,.v⟩

def c51 : ACode := .seq (.region [Ob 1 (.box (.t 0) 5),Ob 2 (.mov (.c .nilm))])
 (.seq (.region [Ob 7 (.mkmap .i),Ob 3 (.new .nilm 1),On (.store (.t 3) (.t 7) 1)])
 (.seq (.seq (.region [Ob 8 (.load (.t 1) (some 5)),Ob 9 (.call 77 [(.t 8)])])
 (.block 0 (.range (.t 9) [10] (.region [Ob 4 (.new (.agg [(.int .i64 0), (.int .u64 0), (.int .u64 0), (.int .u64 0), (.int .u64 0), (.int .u64 0), (.int .u64 0)]) 7),On (.store (.t 4) (.t 10) 7)])
 (.block 1 (.seq (.region [Ob 12 (.load (.t 3) none),Ob 13 (.addr (.t 4) 0),Ob 14 (.addr (.t 13) 1),Ob 15 (.load (.t 14) none),Ob 16 (.mget .i (.agg [(.int .i64 0), (.int .u64 0), (.int .u64 0), (.int .u64 0), (.int .u64 0), (.int .u64 0), (.int .u64 0)]) true (.t 12) (.t 15)),Ob 11 (.mov (.t 16)),Ob 17 (.ext (.t 11) 0),Ob 18 (.ext (.t 11) 1),Ob 5 (.new (.agg [(.int .i64 0), (.int .u64 0), (.int .u64 0), (.int .u64 0), (.int .u64 0), (.int .u64 0), (.int .u64 0)]) 7),On (.store (.t 5) (.t 17) 7),Ob 6 (.mov (.t 18))])
 (.seq (.region [Ob 19 (.mov (.t 6)),Ob 20 (.not (.t 19)),Ob 21 (.mov (.t 20)),Og 22 21 false (.addr (.t 4) 0),Og 23 21 false (.addr (.t 22) 0),Og 24 21 false (.load (.t 23) none),Og 25 21 false (.addr (.t 5) 0),Og 26 21 false (.addr (.t 25) 0),Og 27 21 false (.load (.t 26) none),Og 28 21 false (.bin .gtr (.t 24) (.t 27)),Ob 29 (.pick (.t 21) (.c (.bool true)) (.t 28))])
 (.cond (.t 29) (.region [Ob 30 (.load (.t 3) none),Ob 31 (.addr (.t 4) 0),Ob 32 (.addr (.t 31) 1),Ob 33 (.load (.t 32) none),Ob 34 (.load (.t 4) (some 7)),On (.mput .i (.t 30) (.t 33) (.t 34))])
 (.skip))))))))
 (.seq (.region [Ob 35 (.load (.t 3) none),Ob 2 (.mov (.t 35))])
 (.ret))))
def r51 : List Res := [.t 2]
def a51 : AFn := ⟨1, c51, r51,.r⟩

def c52 : ACode := .seq (.region [Ob 2 (.box (.t 0) 1),Ob 4 (.new (.sl [] .tight) 1),Ob 5 (.new (.bool false) 1)])
 (.seq (.seq (.region [Ob 10 (.mov (.t 1)),Ob 11 (.call 78 [(.t 10)])])
 (.block 0 (.range (.t 11) [12] (.region [Ob 6 (.mov (.t 12))])
 (.block 1 (.seq (.seq (.region [Ob 14 (.load (.t 2) none),Ob 15 (.mov (.t 6)),Ob 16 (.call 58 [(.t 14), (.t 15)]),Ob 13 (.mov (.t 16)),Ob 17 (.ext (.t 13) 0),Ob 18 (.ext (.t 13) 1),Ob 7 (.mov (.t 17)),Ob 8 (.mov (.t 18))])
 (.seq (.region [Ob 19 (.mov (.t 8))])
 (.cond (.t 19) (.exit 1)
 (.skip))))
 (.seq (.region [Ob 20 (.mov (.t 6)),Ob 21 (.call 75 [(.t 20)]),Ob 9 (.mov (.t 21))])
 (.seq (.region [Ob 22 (.load (.t 5) none),Ob 23 (.not (.t 22)),Ob 24 (.mov (.t 23)),Og 25 24 false (.mov (.t 9)),Og 26 24 false (.load (.t 4) none),Og 27 24 false (.call 79 [(.t 25), (.t 26)]),Ob 28 (.pick (.t 24) (.c (.bool true)) (.t 27))])
 (.cond (.t 28) (.region [Ob 29 (.mov (.t 9)),On (.store (.t 4) (.t 29) 1),On (.store (.t 5) (.c (.bool true)) 1)])
 (.skip)))))))))
 (.seq (.regionD [Ob 30 (.load (.t 4) none),Ob 31 (.load (.t 5) none),On (.store (.t 4) (.t 30) 1),On (.store (.t 5) (.t 31) 1)] [(5, 4)])
 (.ret)))
def r52 : List Res := [.cell 4 none,.cell 5 none]
def a52 : AFn := ⟨2, c52, r52,.r⟩

def c53 : ACode := .seq (.region [Ob 1 (.box (.t 0) 5),Ob 2 (.mov (.c (.int .u64 0)))])
 (.seq (.region [Ob 3 (.addr (.t 1) 4),Ob 4 (.load (.t 3) none),Ob 5 (.len (.t 4)),Ob 6 (.call 80 [(.t 5)]),Ob 2 (.mov (.t 6))])
 (.ret))
def r53 : List Res := [.t 2]
def a53 : AFn := ⟨1, c53, r53,.v⟩

def c54 : ACode := .seq (.region [Ob 1 (.box (.t 0) 5),Ob 2 (.mov (.c (.sl [] .tight)))])
 (.seq (.region [Ob 3 (.mov (.c (.sl [] .tight)))])
 (.seq (.region [Ob 9 (.load (.t 1) (some 5)),Ob 10 (.call 76 [(.t 9), (.c (.sl [] .tight))]),Ob 4 (.mov (.t 10))])
 (.seq (.seq (.region [Ob 5 (.mov (Ci 0))])
 (.block 0 (.loop (.seq (.seq (.region [Ob 11 (.mov (.t 5)),Ob 12 (.mov (.t 4)),Ob 13 (.len (.t 12)),Ob 14 (.bin .lss (.t 11) (.t 13))])
 (.cond (.t 14) (.skip)
 (.exit 0)))
 (.seq (.block 1 (.seq (.region [Ob 17 (.addr (.t 1) 4),Ob 18 (.load (.t 17) none),Ob 19 (.len (.t 18)),Ob 20 (.conv .u64 (.t 19)),Ob 21 (.bin .shl (Ci 1) (.t 20)),Ob 22 (.bin .sub (.t 21) (Ci 1)),Ob 6 (.mov (.t 22))])
 (.seq (.region [Ob 23 (.load (.t 1) (some 5)),Ob 24 (.mov (.t 4)),Ob 25 (.mov (.t 5)),Ob 26 (.idx (.t 24) (.t 25) 1),Ob 27 (.load (.t 26) none),Ob 28 (.call 46 [(.t 23), (.t 27)]),Ob 7 (.mov (.t 28))])
 (.seq (.seq (.region [Ob 8 (.mov (Ci 0))])
 (.block 2 (.loop (.seq (.seq (.region [Ob 29 (.mov (.t 8)),Ob 30 (.mov (.t 7)),Ob 31 (.len (.t 30)),Ob 32 (.bin .lss (.t 29) (.t 31))])
 (.cond (.t 32) (.skip)
 (.exit 2)))
 (.seq (.block 3 (.region [Ob 35 (.mov (.t 6)),Ob 36 (.mov (.t 7)),Ob 37 (.mov (.t 8)),Ob 38 (.idx (.t 36) (.t 37) 1),Ob 39 (.load (.t 38) none),Ob 40 (.conv .u64 (.t 39)),Ob 41 (.bin .shl (Ci 1) (.t 40)),Ob 42 (.bin .andNot (.t 35) (.t 41)),Ob 6 (.mov (.t 42))]))
 (.region [Ob 33 (.mov (.t 8)),Ob 34 (.bin .add (.t 33) (Ci 1)),Ob 8 (.mov (.t 34))]))))))
 (.seq (.region [Ob 43 (.mov (.t 3)),Ob 44 (.mov (.t 6)),Ob 45 (.call 81 [(.t 43), (.t 44)]),Ob 46 (.not (.t 45))])
 (.cond (.t 46) (.region [Ob 47 (.mov (.t 3)),Ob 48 (.mov (.t 6)),Ob 49 (.lit false 3 1 [(.t 48)]),Ob 50 (.app false (.t 47) (.t 49) 3 1 8),Ob 3 (.mov (.t 50))])
 (.skip)))))))
 (.region [Ob 15 (.mov (.t 5)),Ob 16 (.bin .add (.t 15) (Ci 1)),Ob 5 (.mov (.t 16))]))))))
 (.seq (.region [Ob 51 (.mov (.t 3)),Ob 2 (.mov (.t 51))])
 (.ret)))))
def r54 : List Res := [.t 2]
def a54 : AFn := ⟨1, c54, r54,.v⟩

def c55 : ACode := .seq (.region [Ob 2 (.mov (.c (.sl [] .tight)))])
 (.seq (.region [Ob 3 (.mov (.c (.sl [] .tight)))])
 (.seq (.seq (.region [Ob 4 (.mov (Ci 0))])
 (.block 0 (.loop (.seq (.seq (.region [Ob 5 (.mov (.t 4)),Ob 6 (.bin .lss (.t 5) (Ci 8))])
 (.cond (.t 6) (.skip)
 (.exit 0)))
 (.seq (.block 1 (.seq (.region [Ob 9 (.mov (.t 0)),Ob 10 (.mov (.t 4)),Ob 11 (.conv .u64 (.t 10)),Ob 12 (.bin .shr (.t 9) (.t 11)),Ob 13 (.bin .and (.t 12) (Ci 1)),Ob 14 (.bin .eql (.t 13) (Ci 1))])
 (.cond (.t 14) (.region [Ob 15 (.mov (.t 3)),Ob 16 (.mov (.t 4)),Ob 17 (.lit false 3 1 [(.t 16)]),Ob 18 (.app false (.t 15) (.t 17) 3 1 8),Ob 3 (.mov (.t 18))])
 (.skip))))
 (.region [Ob 7 (.mov (.t 4)),Ob 8 (.bin .add (.t 7) (Ci 1)),Ob 4 (.mov (.t 8))]))))))
 (.seq (.region [Ob 19 (.mov (.t 3)),Ob 2 (.mov (.t 19))])
 (.ret))))
def r55 : List Res := [.t 2]
def a55 : AFn := ⟨1, c55, r55,.v⟩

def c56 : ACode := .seq (.region [Ob 4 (.mov (.c (.bool false)))])
 (.seq (.seq (.region [Ob 5 (.mov (Ci 0))])
 (.block 0 (.loop (.seq (.seq (.region [Ob 6 (.mov (.t 5)),Ob 7 (.mov (.t 0)),Ob 8 (.len (.t 7)),Ob 9 (.bin .lss (.t 6) (.t 8)),Ob 10 (.mov (.t 9)),Og 11 10 true (.mov (.t 0)),Og 12 10 true (.len (.t 11)),Og 13 10 true (.mov (.t 1)),Og 14 10 true (.len (.t 13)),Og 15 10 true (.bin .eql (.t 12) (.t 14)),Ob 16 (.pick (.t 10) (.t 15) (.c (.bool false)))])
 (.cond (.t 16) (.skip)
 (.exit 0)))
 (.seq (.block 1 (.seq (.region [Ob 19 (.mov (.t 0)),Ob 20 (.mov (.t 5)),Ob 21 (.idx (.t 19) (.t 20) 1),Ob 22 (.load (.t 21) none),Ob 23 (.mov (.t 1)),Ob 24 (.mov (.t 5)),Ob 25 (.idx (.t 23) (.t 24) 1),Ob 26 (.load (.t 25) none),Ob 27 (.bin .neq (.t 22) (.t 26))])
 (.cond (.t 27) (.seq (.region [Ob 28 (.mov (.t 0)),Ob 29 (.mov (.t 5)),Ob 30 (.idx (.t 28) (.t 29) 1),Ob 31 (.load (.t 30) none),Ob 32 (.mov (.t 1)),Ob 33 (.mov (.t 5)),Ob 34 (.idx (.t 32) (.t 33) 1),Ob 35 (.load (.t 34) none),Ob 36 (.bin .lss (.t 31) (.t 35)),Ob 4 (.mov (.t 36))])
 (.ret))
 (.skip))))
 (.region [Ob 17 (.mov (.t 5)),Ob 18 (.bin .add (.t 17) (Ci 1)),Ob 5 (.mov (.t 18))]))))))
 (.seq (.region [Ob 37 (.mov (.t 0)),Ob 38 (.len (.t 37)),Ob 39 (.mov (.t 1)),Ob 40 (.len (.t 39)),Ob 41 (.bin .lss (.t 38) (.t 40)),Ob 4 (.mov (.t 41))])
 (.ret)))
def r56 : List Res := [.t 4]
def a56 : AFn := ⟨2, c56, r56,.v⟩

def c57 : ACode := .seq (.region [Ob 6 (.mov (.c (.bool false)))])
 (.seq (.region [Ob 7 (.mov (.t 1)),Ob 8 (.mov (.t 0)),Ob 9 (.bin .leq (.t 7) (.t 8)),Ob 10 (.mov (.t 9)),Og 11 10 true (.mov (.t 0)),Og 12 10 true (.mov (.t 2)),Og 13 10 true (.bin .leq (.t 11) (.t 12)),Ob 14 (.pick (.t 10) (.t 13) (.c (.bool false))),Ob 6 (.mov (.t 14))])
 (.ret))
def r57 : List Res := [.t 6]
def a57 : AFn := ⟨3, c57, r57,.v⟩

def c58 : ACode := .seq (.region [Ob 4 (.mov (Ci 0)),Ob 5 (.mov (.c (.bool false)))])
 (.seq (.region [Ob 6 (.mov (Ci 0)),Ob 7 (.mov (.c (.bool false)))])
 (.seq (.rngm (.t 10) 11 12 13 14 [Ob 10 (.mov (.t 0))] [Ob 15 (.ext (.t 14) 0), Ob 16 (.ext (.t 14) 1), Ob 9 (.new (.agg [(.int .i64 0), (.int .u64 0), (.int .u64 0), (.int .u64 0), (.int .u64 0), (.int .u64 0), (.int .u64 0)]) 7), Ob 8 (.mov (.t 15)), On (.store (.t 9) (.t 16) 7)] 0 1 (.seq (.region [Ob 17 (.mov (.t 8)),Ob 18 (.mov (.t 1)),Ob 19 (.call 82 [(.t 17), (.t 18)])])
 (.cond (.t 19) (.region [Ob 20 (.mov (.t 6)),Ob 21 (.addr (.t 9) 0),Ob 22 (.addr (.t 21) 0),Ob 23 (.load (.t 22) none),Ob 24 (.mnx true (.t 20) (.t 23)),Ob 6 (.mov (.t 24)),Ob 7 (.mov (.c (.bool true)))])
 (.skip))) [8, 9, 15, 16, 17, 18, 19, 20, 21, 22, 23, 24])
 (.seq (.region [Ob 25 (.mov (.t 6)),Ob 26 (.mov (.t 7)),Ob 4 (.mov (.t 25)),Ob 5 (.mov (.t 26))])
 (.ret))))
def r58 : List Res := [.t 4,.t 5]
def a58 : AFn := ⟨2, c58, r58,.r⟩

def c59 : ACode := .seq (.region [Ob 4 (.mov (.c (.int .u64 0)))])
 (.seq (.region [Ob 5 (.mov (.t 0)),Ob 6 (.mov (.t 1)),Ob 7 (.bin .shl (.c (.int .u64 1)) (.t 6)),Ob 8 (.bin .andNot (.t 5) (.t 7)),Ob 4 (.mov (.t 8))])
 (.ret))
def r59 : List Res := [.t 4]
def a59 : AFn := ⟨2, c59, r59,.v⟩

def c60 : ACode := .seq (.region [Ob 2 (.box (.t 0) 7),Ob 4 (.mov (.c (.sl [] .tight)))])
 (.seq (.region [Ob 10 (.lit false 3 1 [(Ci (-1))]),Ob 11 (.mov (.t 1)),Ob 12 (.call 83 [(.t 10), (.t 11)]),Ob 5 (.mov (.t 12))])
 (.seq (.seq (.region [Ob 13 (.addr (.t 2) 2),Ob 14 (.load (.t 13) (some 4)),Ob 15 (.mov (Ci 0))])
 (.block 0 (.loop (.seq (.region [Ob 16 (.bin .lss (.t 15) (Ci 4))])
 (.seq (.cond (.t 16) (.skip)
 (.exit 0))
 (.seq (.block 1 (.seq (.region [Ob 17 (.mov (.t 15)),Ob 18 (.vidx (.t 14) (.t 15) 4 1 none),Ob 6 (.mov (.t 17)),Ob 7 (.mov (.t 18))])
 (.seq (.region [Ob 19 (.mov (.t 7)),Ob 20 (.call 75 [(.t 19)]),Ob 21 (.len (.t 20)),Ob 22 (.mov (Ci 0))])
 (.block 2 (.loop (.seq (.region [Ob 23 (.bin .lss (.t 22) (.t 21))])
 (.seq (.cond (.t 23) (.skip)
 (.exit 2))
 (.seq (.block 3 (.seq (.region [Ob 24 (.idx (.t 20) (.t 22) 1),Ob 25 (.load (.t 24) none),Ob 9 (.mov (.t 25))])
 (.region [Ob 26 (.mov (.t 5)),Ob 27 (.mov (.t 9)),Ob 28 (.mov (.t 6)),Ob 29 (.idx (.t 26) (.t 27) 1),On (.store (.t 29) (.t 28) 1)])))
 (.region [Ob 30 (.bin .add (.t 22) (Ci 1)),Ob 22 (.mov (.t 30))])))))))))
 (.region [Ob 31 (.bin .add (.t 15) (Ci 1)),Ob 15 (.mov (.t 31))])))))))
 (.seq (.region [Ob 32 (.mov (.t 5)),Ob 4 (.mov (.t 32))])
 (.ret))))
def r60 : List Res := [.t 4]
def a60 : AFn := ⟨2, c60, r60,.v⟩

def c61 : ACode := .seq (.region [Ob 1 (.box (.t 0) 5),Ob 2 (.mov (Ci 0))])
 (.seq (.region [Ob 3 (.addr (.t 1) 0),Ob 4 (.load (.t 3) none),Ob 5 (.addr (.t 1) 1),Ob 6 (.load (.t 5) none),Ob 7 (.len (.t 6)),Ob 8 (.bin .mul (.t 4) (.t 7)),Ob 9 (.addr (.t 1) 2),Ob 10 (.load (.t 9) none),Ob 11 (.bin .mul (.t 8) (.t 10)),Ob 2 (.mov (.t 11))])
 (.ret))
def r61 : List Res := [.t 2]
def a61 : AFn := ⟨1, c61, r61,.v⟩

def c62 : ACode := .seq (.region [Ob 2 (.mov (.c (.bool false)))])
 (.seq (.region [Ob 3 (.mov (.t 0)),Ob 4 (.call 57 [(.t 3), (Ci 0), (Ci 999)]),Ob 2 (.mov (.t 4))])
 (.ret))
def r62 : List Res := [.t 2]
def a62 : AFn := ⟨1, c62, r62,.v⟩

def c63 : ACode := .seq (.region [Ob 3 (.box (.t 0) 2),Ob 4 (.mov (.c (.bool false)))])
 (.seq (.region [Ob 5 (.addr (.t 3) 0),Ob 6 (.load (.t 5) none),Ob 7 (.call 57 [(.t 6), (Ci 0), (Ci 100)]),Ob 8 (.mov (.t 7)),Og 9 8 true (.addr (.t 3) 1),Og 10 8 true (.load (.t 9) none),Og 11 8 true (.len (.t 10)),Og 12 8 true (.addr (.t 1) 2),Og 13 8 true (.load (.t 12) none),Og 14 8 true (.bin .eql (.t 11) (.t 13)),Ob 15 (.pick (.t 8) (.t 14) (.c (.bool false))),Ob 16 (.mov (.t 15)),Og 17 16 true (.addr (.t 3) 1),Og 18 16 true (.load (.t 17) none),Og 19 16 true (.load (.t 2) none),Og 20 16 true (.call 64 [(.t 18), (.t 19)]),Ob 21 (.pick (.t 16) (.t 20) (.c (.bool false))),Ob 4 (.mov (.t 21))])
 (.ret))
def r63 : List Res := [.t 4]
def a63 : AFn := ⟨3, c63, r63,.v⟩

def c64 : ACode := .seq (.region [Ob 3 (.box (.t 1) 1),Ob 4 (.mov (.c (.bool false)))])
 (.seq (.region [Ob 5 (.mov (.t 0)),Ob 6 (.clo 85 [] [(.t 3)]),Ob 7 (.call 84 [(.t 5), (.t 6)]),Ob 8 (.not (.t 7)),Ob 4 (.mov (.t 8))])
 (.ret))
def r64 : List Res := [.t 4]
def a64 : AFn := ⟨2, c64, r64,.v⟩

def c65 : ACode := .seq (.region [Ob 1 (.box (.t 0) 5),Ob 2 (.mov (.c (.bool false)))])
 (.seq (.region [Ob 3 (.mov (.c (.fn 86 [] [])))])
 (.seq (.region [Ob 4 (.addr (.t 1) 0),Ob 5 (.load (.t 4) none),Ob 6 (.call 57 [(.t 5), (Ci 1), (Ci 7)]),Ob 7 (.mov (.t 6)),Og 8 7 true (.addr (.t 1) 1),Og 9 7 true (.load (.t 8) none),Og 10 7 true (.len (.t 9)),Og 11 7 true (.call 57 [(.t 10), (Ci 1), (Ci 4)]),Ob 12 (.pick (.t 7) (.t 11) (.c (.bool false))),Ob 13 (.mov (.t 12)),Og 14 13 true (.addr (.t 1) 1),Og 15 13 true (.load (.t 14) none),Og 16 13 true (.mov (.t 3)),Og 17 13 true (.call 64 [(.t 15), (.t 16)]),Ob 18 (.pick (.t 13) (.t 17) (.c (.bool false))),Ob 19 (.mov (.t 18)),Og 20 19 true (.addr (.t 1) 2),Og 21 19 true (.load (.t 20) none),Og 22 19 true (.call 57 [(.t 21), (Ci 1), (Ci 4)]),Ob 23 (.pick (.t 19) (.t 22) (.c (.bool false))),Ob 24 (.mov (.t 23)),Og 25 24 true (.load (.t 1) (some 5)),Og 26 24 true (.call 61 [(.t 25)]),Og 27 24 true (.bin .leq (.t 26) (Ci 8)),Ob 28 (.pick (.t 24) (.t 27) (.c (.bool false))),Ob 2 (.mov (.t 28))])
 (.ret)))
def r65 : List Res := [.t 2]
def a65 : AFn := ⟨1, c65, r65,.v⟩

def c66 : ACode := .seq (.region [Ob 3 (.box (.t 1) 1),Ob 4 (.mov (.c (.bool false)))])
 (.seq (.region [Ob 5 (.mov (.t 0)),Ob 6 (.clo 88 [] [(.t 3)]),Ob 7 (.call 87 [(.t 5), (.t 6)]),Ob 8 (.not (.t 7)),Ob 4 (.mov (.t 8))])
 (.ret))
def r66 : List Res := [.t 4]
def a66 : AFn := ⟨2, c66, r66,.v⟩

def c67 : ACode := .seq (.region [Ob 3 (.box (.t 1) 1),Ob 4 (.mov (.c (.bool false)))])
 (.seq (.region [Ob 5 (.mov (.t 0)),Ob 6 (.clo 90 [] [(.t 3)]),Ob 7 (.call 89 [(.t 5), (.t 6)]),Ob 8 (.not (.t 7)),Ob 4 (.mov (.t 8))])
 (.ret))
def r67 : List Res := [.t 4]
def a67 : AFn := ⟨2, c67, r67,.v⟩

def c68 : ACode := .seq (.region [Ob 2 (.box (.t 0) 8),Ob 3 (.mov (.c (.bool false)))])
 (.seq (.region [Ob 4 (.addr (.t 2) 1),Ob 5 (.load (.t 4) none),Ob 6 (.addr (.t 1) 3),Ob 7 (.load (.t 6) none),Ob 8 (.len (.t 7)),Ob 9 (.bin .sub (.t 8) (Ci 1)),Ob 10 (.call 57 [(.t 5), (Ci 0), (.t 9)]),Ob 11 (.mov (.t 10)),Og 12 11 true (.addr (.t 2) 2),Og 13 11 true (.load (.t 12) none),Og 14 11 true (.bin .leq (Ci 0) (.t 13)),Ob 15 (.pick (.t 11) (.t 14) (.c (.bool false))),Ob 16 (.mov (.t 15)),Og 17 16 true (.addr (.t 2) 2),Og 18 16 true (.load (.t 17) none),Og 19 16 true (.addr (.t 2) 3),Og 20 16 true (.load (.t 19) none),Og 21 16 true (.bin .leq (.t 18) (.t 20)),Ob 22 (.pick (.t 16) (.t 21) (.c (.bool false))),Ob 23 (.mov (.t 22)),Og 24 23 true (.addr (.t 2) 3),Og 25 23 true (.load (.t 24) none),Og 26 23 true (.addr (.t 1) 0),Og 27 23 true (.load (.t 26) none),Og 28 23 true (.bin .lss (.t 25) (.t 27)),Ob 29 (.pick (.t 23) (.t 28) (.c (.bool false))),Ob 30 (.mov (.t 29)),Og 31 30 true (.addr (.t 2) 4),Og 32 30 true (.load (.t 31) none),Og 33 30 true (.bin .leq (Ci 0) (.t 32)),Ob 34 (.pick (.t 30) (.t 33) (.c (.bool false))),Ob 35 (.mov (.t 34)),Og 36 35 true (.addr (.t 2) 4),Og 37 35 true (.load (.t 36) none),Og 38 35 true (.addr (.t 2) 5),Og 39 35 true (.load (.t 38) none),Og 40 35 true (.bin .leq (.t 37) (.t 39)),Ob 41 (.pick (.t 35) (.t 40) (.c (.bool false))),Ob 42 (.mov (.t 41)),Og 43 42 true (.addr (.t 2) 5),Og 44 42 true (.load (.t 43) none),Og 45 42 true (.addr (.t 1) 2),Og 46 42 true (.load (.t 45) none),Og 47 42 true (.bin .lss (.t 44) (.t 46)),Ob 48 (.pick (.t 42) (.t 47) (.c (.bool false))),Ob 49 (.mov (.t 48)),Og 50 49 true (.addr (.t 2) 6),Og 51 49 true (.load (.t 50) none),Og 52 49 true (.call 57 [(.t 51), (Ci 0), (Ci 500)]),Ob 53 (.pick (.t 49) (.t 52) (.c (.bool false))),Ob 54 (.mov (.t 53)),Og 55 54 true (.load (.t 2) (some 8)),Og 56 54 true (.call 69 [(.t 55)]),Ob 57 (.pick (.t 54) (.t 56) (.c (.bool false))),Ob 3 (.mov (.t 57))])
 (.ret))
def r68 : List Res := [.t 3]
def a68 : AFn := ⟨2, c68, r68,.v⟩

def c69 : ACode := .seq (.region [Ob 1 (.box (.t 0) 8),Ob 2 (.mov (.c (.bool false)))])
 (.seq (.seq (.region [Ob 3 (.addr (.t 1) 0),Ob 4 (.load (.t 3) none)])
 (.block 0 (.seq (.seq (.region [Ob 6 (.bin .eql (.t 4) (Ci 1)),Ob 5 (.mov (.t 6))])
 (.cond (.t 5) (.skip)
 (.region [Ob 7 (.bin .eql (.t 4) (Ci 2)),Ob 5 (.mov (.t 7))])))
 (.cond (.t 5) (.seq (.region [Ob 8 (.addr (.t 1) 7),Ob 9 (.load (.t 8) none),Ob 10 (.call 57 [(.t 9), (Ci 0), (Ci 8)]),Ob 2 (.mov (.t 10))])
 (.ret))
 (.seq (.seq (.region [Ob 12 (.bin .eql (.t 4) (Ci 3)),Ob 11 (.mov (.t 12))])
 (.cond (.t 11) (.skip)
 (.seq (.region [Ob 13 (.bin .eql (.t 4) (Ci 4)),Ob 11 (.mov (.t 13))])
 (.cond (.t 11) (.skip)
 (.region [Ob 14 (.bin .eql (.t 4) (Ci 5)),Ob 11 (.mov (.t 14))])))))
 (.cond (.t 11) (.seq (.region [Ob 15 (.addr (.t 1) 7),Ob 16 (.load (.t 15) none),Ob 17 (.bin .eql (.t 16) (Ci 0)),Ob 2 (.mov (.t 17))])
 (.ret))
 (.skip)))))))
 (.seq (.region [Ob 2 (.mov (.c (.bool false)))])
 (.ret)))
def r69 : List Res := [.t 2]
def a69 : AFn := ⟨1, c69, r69,.v⟩

def c70 : ACode := .seq (.region [Ob 3 (.mov (.c (.bool false)))])
 (.seq (.region [Ob 4 (.mov (.t 0)),Ob 5 (.bin .eql (.t 4) (Ci (-1))),Ob 6 (.mov (.t 5)),Og 7 6 false (.mov (.t 0)),Og 8 6 false (.addr (.t 1) 3),Og 9 6 false (.load (.t 8) none),Og 10 6 false (.len (.t 9)),Og 11 6 false (.bin .sub (.t 10) (Ci 1)),Og 12 6 false (.call 57 [(.t 7), (Ci 0), (.t 11)]),Ob 13 (.pick (.t 6) (.c (.bool true)) (.t 12)),Ob 3 (.mov (.t 13))])
 (.ret))
def r70 : List Res := [.t 3]
def a70 : AFn := ⟨2, c70, r70,.v⟩

def c71 : ACode := .seq (.region [Ob 3 (.box (.t 0) 5),Ob 4 (.box (.t 1) 8),Ob 5 (.box (.t 2) 1),Ob 6 (.mov (.c .nilf))])
 (.seq (.region [Ob 7 (.clo 91 [] [(.t 4), (.t 3), (.t 5)]),Ob 6 (.mov (.t 7))])
 (.ret))
def r71 : List Res := [.t 6]
def a71 : AFn := ⟨3, c71, r71,.v⟩

def c72 : ACode := .seq (.region [Ob 3 (.box (.t 0) 5),Ob 4 (.box (.t 1) 8),Ob 6 (.mov (.c (.bool false)))])
 (.seq (.seq (.region [Ob 8 (.addr (.t 4) 2),Ob 9 (.load (.t 8) none),Ob 7 (.mov (.t 9))])
 (.block 0 (.loop (.seq (.seq (.region [Ob 10 (.mov (.t 7)),Ob 11 (.addr (.t 4) 3),Ob 12 (.load (.t 11) none),Ob 13 (.bin .leq (.t 10) (.t 12))])
 (.cond (.t 13) (.skip)
 (.exit 0)))
 (.seq (.block 1 (.seq (.region [Ob 16 (.load (.t 3) (some 5)),Ob 17 (.load (.t 4) (some 8)),Ob 18 (.mov (.t 2)),Ob 19 (.mov (.t 7)),Ob 20 (.call 93 [(.t 16), (.t 17), (.t 18), (.t 19)]),Ob 21 (.not (.t 20))])
 (.cond (.t 21) (.seq (.region [Ob 6 (.mov (.c (.bool false)))])
 (.ret))
 (.skip))))
 (.region [Ob 14 (.mov (.t 7)),Ob 15 (.bin .add (.t 14) (Ci 1)),Ob 7 (.mov (.t 15))]))))))
 (.seq (.region [Ob 6 (.mov (.c (.bool true)))])
 (.ret)))
def r72 : List Res := [.t 6]
def a72 : AFn := ⟨3, c72, r72,.v⟩

def c73 : ACode := .seq (.region [Ob 4 (.mov (.c (.int .u64 0)))])
 (.seq (.region [Ob 5 (.mov (.t 0)),Ob 6 (.mov (.t 1)),Ob 7 (.bin .shl (.c (.int .u64 1)) (.t 6)),Ob 8 (.bin .or (.t 5) (.t 7)),Ob 4 (.mov (.t 8))])
 (.ret))
def r73 : List Res := [.t 4]
def a73 : AFn := ⟨2, c73, r73,.v⟩

def c74 : ACode := .seq (.region [Ob 3 (.box (.t 0) 5),Ob 5 (.box (.t 2) 8),Ob 6 (.mov (.c (.bool false)))])
 (.seq (.region [Ob 14 (.addr (.t 3) 1),Ob 15 (.load (.t 14) none),Ob 16 (.len (.t 15)),Ob 17 (.bin .sub (.t 16) (Ci 1)),Ob 7 (.mov (.t 17))])
 (.seq (.region [Ob 18 (.load (.t 3) (some 5)),Ob 19 (.mov (.t 1)),Ob 20 (.load (.t 5) (some 8)),Ob 21 (.addr (.t 5) 2),Ob 22 (.load (.t 21) none),Ob 23 (.addr (.t 5) 3),Ob 24 (.load (.t 23) none),Ob 25 (.addr (.t 5) 4),Ob 26 (.load (.t 25) none),Ob 27 (.addr (.t 5) 5),Ob 28 (.load (.t 27) none),Ob 29 (.mov (.t 7)),Ob 30 (.call 94 [(.t 18), (.t 19), (.t 20), (.t 22), (.t 24), (.t 26), (.t 28), (Ci 0), (.t 29)]),Ob 8 (.mov (.t 30))])
 (.seq (.seq (.region [Ob 31 (.addr (.t 5) 0),Ob 32 (.load (.t 31) none)])
 (.block 0 (.seq (.region [Ob 34 (.bin .eql (.t 32) (Ci 1)),Ob 33 (.mov (.t 34))])
 (.cond (.t 33) (.seq (.region [Ob 35 (.mov (.t 8)),Ob 36 (.addr (.t 5) 7),Ob 37 (.load (.t 36) none),Ob 38 (.bin .geq (.t 35) (.t 37)),Ob 6 (.mov (.t 38))])
 (.ret))
 (.seq (.region [Ob 40 (.bin .eql (.t 32) (Ci 2)),Ob 39 (.mov (.t 40))])
 (.cond (.t 39) (.seq (.region [Ob 41 (.mov (.t 8)),Ob 42 (.addr (.t 5) 7),Ob 43 (.load (.t 42) none),Ob 44 (.bin .leq (.t 41) (.t 43)),Ob 6 (.mov (.t 44))])
 (.ret))
 (.skip)))))))
 (.seq (.seq (.region [Ob 45 (.addr (.t 5) 2),Ob 46 (.load (.t 45) none),Ob 9 (.mov (.t 46))])
 (.block 1 (.loop (.seq (.seq (.region [Ob 47 (.mov (.t 9)),Ob 48 (.addr (.t 5) 3),Ob 49 (.load (.t 48) none),Ob 50 (.bin .leq (.t 47) (.t 49))])
 (.cond (.t 50) (.skip)
 (.exit 1)))
 (.seq (.block 2 (.seq (.region [Ob 10 (.mov (.c (.bool false)))])
 (.seq (.seq (.region [Ob 11 (.mov (Ci 0))])
 (.block 3 (.loop (.seq (.seq (.region [Ob 53 (.mov (.t 11)),Ob 54 (.mov (.t 7)),Ob 55 (.bin .leq (.t 53) (.t 54))])
 (.cond (.t 55) (.skip)
 (.exit 3)))
 (.seq (.block 4 (.region [Ob 58 (.mov (.t 10)),Ob 59 (.mov (.t 58)),Og 60 59 false (.load (.t 3) (some 5)),Og 61 59 false (.mov (.t 1)),Og 62 59 false (.load (.t 5) (some 8)),Og 63 59 false (.mov (.t 9)),Og 64 59 false (.mov (.t 9)),Og 65 59 false (.addr (.t 5) 4),Og 66 59 false (.load (.t 65) none),Og 67 59 false (.addr (.t 5) 5),Og 68 59 false (.load (.t 67) none),Og 69 59 false (.mov (.t 11)),Og 70 59 false (.mov (.t 11)),Og 71 59 false (.call 94 [(.t 60), (.t 61), (.t 62), (.t 63), (.t 64), (.t 66), (.t 68), (.t 69), (.t 70)]),Og 72 59 false (.addr (.t 5) 5),Og 73 59 false (.load (.t 72) none),Og 74 59 false (.addr (.t 5) 4),Og 75 59 false (.load (.t 74) none),Og 76 59 false (.bin .sub (.t 73) (.t 75)),Og 77 59 false (.bin .add (.t 76) (Ci 1)),Og 78 59 false (.bin .eql (.t 71) (.t 77)),Ob 79 (.pick (.t 59) (.c (.bool true)) (.t 78)),Ob 10 (.mov (.t 79))]))
 (.region [Ob 56 (.mov (.t 11)),Ob 57 (.bin .add (.t 56) (Ci 1)),Ob 11 (.mov (.t 57))]))))))
 (.seq (.seq (.region [Ob 80 (.addr (.t 5) 0),Ob 81 (.load (.t 80) none),Ob 82 (.bin .eql (.t 81) (Ci 3)),Ob 83 (.mov (.t 82)),Og 84 83 true (.mov (.t 10)),Og 85 83 true (.not (.t 84)),Ob 86 (.pick (.t 83) (.t 85) (.c (.bool false)))])
 (.cond (.t 86) (.seq (.region [Ob 6 (.mov (.c (.bool false)))])
 (.ret))
 (.skip)))
 (.seq (.region [Ob 87 (.addr (.t 5) 4),Ob 88 (.load (.t 87) none),Ob 12 (.mov (.t 88))])
 (.block 5 (.loop (.seq (.seq (.region [Ob 89 (.mov (.t 12)),Ob 90 (.addr (.t 5) 5),Ob 91 (.load (.t 90) none),Ob 92 (.bin .leq (.t 89) (.t 91))])
 (.cond (.t 92) (.skip)
 (.exit 5)))
 (.seq (.block 6 (.seq (.region [Ob 95 (.load (.t 3) (some 5)),Ob 96 (.mov (.t 1)),Ob 97 (.load (.t 5) (some 8)),Ob 98 (.mov (.t 9)),Ob 99 (.mov (.t 9)),Ob 100 (.mov (.t 12)),Ob 101 (.mov (.t 12)),Ob 102 (.mov (.t 7)),Ob 103 (.call 94 [(.t 95), (.t 96), (.t 97), (.t 98), (.t 99), (.t 100), (.t 101), (Ci 0), (.t 102)]),Ob 13 (.mov (.t 103))])
 (.seq (.region [Ob 104 (.addr (.t 5) 0),Ob 105 (.load (.t 104) none),Ob 106 (.bin .eql (.t 105) (Ci 4)),Ob 107 (.mov (.t 106)),Og 108 107 true (.mov (.t 13)),Og 109 107 true (.bin .gtr (.t 108) (Ci 1)),Ob 110 (.pick (.t 107) (.t 109) (.c (.bool false))),Ob 111 (.mov (.t 110)),Og 112 111 false (.addr (.t 5) 0),Og 113 111 false (.load (.t 112) none),Og 114 111 false (.bin .eql (.t 113) (Ci 5)),Og 115 111 false (.mov (.t 114)),Og 116 115 true (.mov (.t 13)),Og 117 115 true (.bin .eql (.t 116) (Ci 0)),Og 118 111 false (.pick (.t 115) (.t 117) (.c (.bool false))),Ob 119 (.pick (.t 111) (.c (.bool true)) (.t 118))])
 (.cond (.t 119) (.seq (.region [Ob 6 (.mov (.c (.bool false)))])
 (.ret))
 (.skip)))))
 (.region [Ob 93 (.mov (.t 12)),Ob 94 (.bin .add (.t 93) (Ci 1)),Ob 12 (.mov (.t 94))]))))))))))
 (.region [Ob 51 (.mov (.t 9)),Ob 52 (.bin .add (.t 51) (Ci 1)),Ob 9 (.mov (.t 52))]))))))
 (.seq (.region [Ob 6 (.mov (.c (.bool true)))])
 (.ret))))))
def r74 : List Res := [.t 6]
def a74 : AFn := ⟨3, c74, r74,.v⟩

def c75 : ACode := .seq (.region [Ob 2 (.mov (.c (.sl [] .tight)))])
 (.seq (.region [Ob 3 (.mov (.c (.sl [] .tight)))])
 (.seq (.seq (.region [Ob 5 (.mov (.t 0)),Ob 6 (.call 95 [(.t 5)]),Ob 7 (.mov (Ci 0))])
 (.block 0 (.loop (.seq (.region [Ob 8 (.bin .lss (.t 7) (.t 6))])
 (.seq (.cond (.t 8) (.skip)
 (.exit 0))
 (.seq (.block 1 (.seq (.region [Ob 9 (.mov (.t 7)),Ob 4 (.mov (.t 9))])
 (.seq (.region [Ob 10 (.mov (.t 0)),Ob 11 (.mov (.t 4)),Ob 12 (.call 96 [(.t 10), (.t 11)])])
 (.cond (.t 12) (.region [Ob 13 (.mov (.t 3)),Ob 14 (.mov (.t 4)),Ob 15 (.lit false 3 1 [(.t 14)]),Ob 16 (.app false (.t 13) (.t 15) 3 1 8),Ob 3 (.mov (.t 16))])
 (.skip)))))
 (.region [Ob 17 (.bin .add (.t 7) (Ci 1)),Ob 7 (.mov (.t 17))])))))))
 (.seq (.region [Ob 18 (.mov (.t 3)),Ob 2 (.mov (.t 18))])
 (.ret))))
def r75 : List Res := [.t 2]
def a75 : AFn := ⟨1, c75, r75,.v⟩

def c76 : ACode := .seq (.region [Ob 2 (.box (.t 0) 5),Ob 4 (.mov (.c (.sl [] .tight)))])
 (.seq (.seq (.region [Ob 7 (.mov (.t 1)),Ob 8 (.len (.t 7)),Ob 9 (.load (.t 2) (some 5)),Ob 10 (.call 39 [(.t 9)]),Ob 11 (.bin .eql (.t 8) (.t 10))])
 (.cond (.t 11) (.seq (.region [Ob 12 (.mov (.t 1)),Ob 13 (.lit false 22 1 [(.t 12)]),Ob 4 (.mov (.t 13))])
 (.ret))
 (.skip)))
 (.seq (.region [Ob 5 (.mov (.c (.sl [] .tight)))])
 (.seq (.seq (.region [Ob 6 (.mov (Ci (-1)))])
 (.block 0 (.loop (.seq (.seq (.region [Ob 14 (.mov (.t 6)),Ob 15 (.addr (.t 2) 3),Ob 16 (.load (.t 15) none),Ob 17 (.len (.t 16)),Ob 18 (.bin .lss (.t 14) (.t 17))])
 (.cond (.t 18) (.skip)
 (.exit 0)))
 (.seq (.block 1 (.regionD [Ob 21 (.mov (.t 5)),Ob 22 (.load (.t 2) (some 5)),Ob 23 (.lit false 3 1 []),Ob 24 (.mov (.t 1)),Ob 25 (.app false (.t 23) (.t 24) 3 1 8),Ob 26 (.mov (.t 6)),Ob 27 (.lit false 3 1 [(.t 26)]),Ob 28 (.app false (.t 25) (.t 27) 3 1 8),Ob 29 (.call 76 [(.t 22), (.t 28)]),Ob 30 (.app false (.t 21) (.t 29) 22 1 24),Ob 5 (.mov (.t 30))] [(2, 23), (2, 25)]))
 (.region [Ob 19 (.mov (.t 6)),Ob 20 (.bin .add (.t 19) (Ci 1)),Ob 6 (.mov (.t 20))]))))))
 (.seq (.region [Ob 31 (.mov (.t 5)),Ob 4 (.mov (.t 31))])
 (.ret)))))
def r76 : List Res := [.t 4]
def a76 : AFn := ⟨2, c76, r76,.v⟩

def c77 : ACode := .seq (.region [Ob 1 (.box (.t 0) 5),Ob 2 (.mov (.c .nilf))])
 (.seq (.region [Ob 5 (.load (.t 1) (some 5)),Ob 6 (.call 97 [(.t 5)]),Ob 3 (.mov (.t 6))])
 (.seq (.seq (.region [Ob 7 (.addr (.t 1) 3),Ob 8 (.load (.t 7) none),Ob 9 (.len (.t 8)),Ob 10 (.mov (Ci 0))])
 (.block 0 (.loop (.seq (.region [Ob 11 (.bin .lss (.t 10) (.t 9))])
 (.seq (.cond (.t 11) (.skip)
 (.exit 0))
 (.seq (.block 1 (.seq (.region [Ob 12 (.mov (.t 10)),Ob 4 (.mov (.t 12))])
 (.region [Ob 13 (.mov (.t 3)),Ob 14 (.mov (.t 4)),Ob 15 (.load (.t 1) (some 5)),Ob 16 (.mov (.t 4)),Ob 17 (.call 99 [(.t 15), (.t 16)]),Ob 18 (.call 98 [(.t 13), (.t 14), (.t 17)]),Ob 3 (.mov (.t 18))])))
 (.region [Ob 19 (.bin .add (.t 10) (Ci 1)),Ob 10 (.mov (.t 19))])))))))
 (.seq (.region [Ob 20 (.mov (.t 3)),Ob 2 (.mov (.t 20))])
 (.ret))))
def r77 : List Res := [.t 2]
def a77 : AFn := ⟨1, c77, r77,.r⟩

def c78 : ACode := .seq (.region [Ob 1 (.box (.t 0) 1),Ob 2 (.mov (.c .nilf))])
 (.seq (.region [Ob 3 (.clo 100 [] [(.t 1)]),Ob 2 (.mov (.t 3))])
 (.ret))
def r78 : List Res := [.t 2]
def a78 : AFn := ⟨1, c78, r78,.v⟩

def c79 : ACode := .seq (.region [Ob 4 (.mov (.c (.bool false)))])
 (.seq (.region [Ob 5 (.mov (.t 0)),Ob 6 (.len (.t 5)),Ob 7 (.mov (.t 1)),Ob 8 (.len (.t 7)),Ob 9 (.bin .lss (.t 6) (.t 8)),Ob 10 (.mov (.t 9)),Og 11 10 false (.mov (.t 0)),Og 12 10 false (.len (.t 11)),Og 13 10 false (.mov (.t 1)),Og 14 10 false (.len (.t 13)),Og 15 10 false (.bin .eql (.t 12) (.t 14)),Og 16 10 false (.mov (.t 15)),Og 17 16 true (.mov (.t 0)),Og 18 16 true (.mov (.t 1)),Og 19 16 true (.call 101 [(.t 17), (.t 18)]),Og 20 16 true (.bin .lss (.t 19) (Ci 0)),Og 21 10 false (.pick (.t 16) (.t 20) (.c (.bool false))),Ob 22 (.pick (.t 10) (.c (.bool true)) (.t 21)),Ob 4 (.mov (.t 22))])
 (.ret))
def r79 : List Res := [.t 4]
def a79 : AFn := ⟨2, c79, r79,.v⟩

def c80 : ACode := .seq (.region [Ob 2 (.mov (.c (.int .u64 0)))])
 (.seq (.region [Ob 3 (.mov (.t 0)),Ob 4 (.bin .shl (.c (.int .u64 1)) (.t 3)),Ob 5 (.bin .sub (.t 4) (.c (.int .u64 1))),Ob 2 (.mov (.t 5))])
 (.ret))
def r80 : List Res := [.t 2]
def a80 : AFn := ⟨1, c80, r80,.v⟩

def c81 : ACode := .seq (.region [Ob 4 (.mov (.c (.bool false)))])
 (.seq (.seq (.region [Ob 5 (.mov (Ci 0))])
 (.block 0 (.loop (.seq (.seq (.region [Ob 6 (.mov (.t 5)),Ob 7 (.mov (.t 0)),Ob 8 (.len (.t 7)),Ob 9 (.bin .lss (.t 6) (.t 8))])
 (.cond (.t 9) (.skip)
 (.exit 0)))
 (.seq (.block 1 (.seq (.region [Ob 12 (.mov (.t 0)),Ob 13 (.mov (.t 5)),Ob 14 (.idx (.t 12) (.t 13) 1),Ob 15 (.load (.t 14) none),Ob 16 (.mov (.t 1)),Ob 17 (.bin .eql (.t 15) (.t 16))])
 (.cond (.t 17) (.seq (.region [Ob 4 (.mov (.c (.bool true)))])
 (.ret))
 (.skip))))
 (.region [Ob 10 (.mov (.t 5)),Ob 11 (.bin .add (.t 10) (Ci 1)),Ob 5 (.mov (.t 11))]))))))
 (.seq (.region [Ob 4 (.mov (.c (.bool false)))])
 (.ret)))
def r81 : List Res := [.t 4]
def a81 : AFn := ⟨2, c81, r81,.v⟩

def c82 : ACode := .seq (.region [Ob 4 (.mov (.c (.bool false)))])
 (.seq (.region [Ob 5 (.mov (.t 0)),Ob 6 (.mov (.t 1)),Ob 7 (.bin .and (.t 5) (.t 6)),Ob 8 (.mov (.t 1)),Ob 9 (.bin .eql (.t 7) (.t 8)),Ob 4 (.mov (.t 9))])
 (.ret))
def r82 : List Res := [.t 4]
def a82 : AFn := ⟨2, c82, r82,.v⟩

def c83 : ACode := .seq (.region [Ob 4 (.mov (.c (.sl [] .tight)))])
 (.seq (.seq (.region [Ob 9 (.mov (.t 1)),Ob 10 (.bin .lss (.t 9) (Ci 0))])
 (.cond (.t 10) (.region [Ob 11 (.bad),On (.bad)])
 (.skip)))
 (.seq (.region [Ob 13 (.mov (.t 0)),Ob 14 (.len (.t 13)),Ob 15 (.conv .u64 (.t 14)),Ob 16 (.mov (.t 1)),Ob 17 (.conv .u64 (.t 16)),Ob 18 (.call 102 [(.t 15), (.t 17)]),Ob 12 (.mov (.t 18)),Ob 19 (.ext (.t 12) 0),Ob 20 (.ext (.t 12) 1),Ob 5 (.mov (.t 19)),Ob 6 (.mov (.t 20))])
 (.seq (.seq (.region [Ob 21 (.mov (.t 5)),Ob 22 (.bin .gtr (.t 21) (.c (.int .u64 0))),Ob 23 (.mov (.t 22)),Og 24 23 false (.mov (.t 6)),Og 25 23 false (.bin .gtr (.t 24) (.c (.int .u64 9223372036854775807))),Ob 26 (.pick (.t 23) (.c (.bool true)) (.t 25))])
 (.cond (.t 26) (.region [Ob 27 (.bad),On (.bad)])
 (.skip)))
 (.seq (.region [Ob 28 (.mov (.t 6)),Ob 29 (.conv .i64 (.t 28)),Ob 30 (.make (.int .i64 0) 3 1 8 (.t 29) (.t 29)),Ob 7 (.mov (.t 30))])
 (.seq (.region [Ob 31 (.mov (.t 7)),Ob 32 (.mov (.t 0)),Ob 33 (.cpy (.t 31) (.t 32) 1),Ob 8 (.mov (.t 33))])
 (.seq (.block 0 (.loop (.seq (.seq (.region [Ob 34 (.mov (.t 8)),Ob 35 (.mov (.t 7)),Ob 36 (.len (.t 35)),Ob 37 (.bin .lss (.t 34) (.t 36))])
 (.cond (.t 37) (.skip)
 (.exit 0)))
 (.block 1 (.region [Ob 38 (.mov (.t 8)),Ob 39 (.mov (.t 7)),Ob 40 (.mov (.t 8)),Ob 41 (.slice (.t 39) (some (.t 40)) none 1),Ob 42 (.mov (.t 7)),Ob 43 (.mov (.t 8)),Ob 44 (.slice (.t 42) none (some (.t 43)) 1),Ob 45 (.cpy (.t 41) (.t 44) 1),Ob 46 (.bin .add (.t 38) (.t 45)),Ob 8 (.mov (.t 46))])))))
 (.seq (.region [Ob 47 (.mov (.t 7)),Ob 4 (.mov (.t 47))])
 (.ret))))))))
def r83 : List Res := [.t 4]
def a83 : AFn := ⟨2, c83, r83,.o⟩

def c84 : ACode := .seq (.region [Ob 4 (.mov (.c (.bool false)))])
 (.seq (.region [Ob 5 (.mov (.t 0)),Ob 6 (.mov (.t 1)),Ob 7 (.call 103 [(.t 5), (.t 6)]),Ob 8 (.bin .geq (.t 7) (Ci 0)),Ob 4 (.mov (.t 8))])
 (.ret))
def r84 : List Res := [.t 4]
def a84 : AFn := ⟨2, c84, r84,.v⟩

def c85 : ACode := .seq (.region [Ob 3 (.mov (.c (.bool false)))])
 (.seq (.region [Ob 4 (.load (.t 1) none),Ob 5 (.mov (.t 0)),Ob 6 (.callv (.t 4) [(.t 5)]),Ob 7 (.not (.t 6)),Ob 3 (.mov (.t 7))])
 (.ret))
def r85 : List Res := [.t 3]
def a85 : AFn := ⟨2, c85, r85,.v⟩

def c86 : ACode := .seq (.region [Ob 2 (.mov (.c (.bool false)))])
 (.seq (.region [Ob 3 (.mov (.t 0)),Ob 4 (.call 57 [(.t 3), (Ci 1), (Ci 500)]),Ob 2 (.mov (.t 4))])
 (.ret))
def r86 : List Res := [.t 2]
def a86 : AFn := ⟨1, c86, r86,.v⟩

def c87 : ACode := .seq (.region [Ob 4 (.mov (.c (.bool false)))])
 (.seq (.region [Ob 5 (.mov (.t 0)),Ob 6 (.mov (.t 1)),Ob 7 (.call 104 [(.t 5), (.t 6)]),Ob 8 (.bin .geq (.t 7) (Ci 0)),Ob 4 (.mov (.t 8))])
 (.ret))
def r87 : List Res := [.t 4]
def a87 : AFn := ⟨2, c87, r87,.v⟩

def c88 : ACode := .seq (.region [Ob 2 (.box (.t 0) 2),Ob 3 (.mov (.c (.bool false)))])
 (.seq (.region [Ob 4 (.load (.t 1) none),Ob 5 (.load (.t 2) (some 2)),Ob 6 (.callv (.t 4) [(.t 5)]),Ob 7 (.not (.t 6)),Ob 3 (.mov (.t 7))])
 (.ret))
def r88 : List Res := [.t 3]
def a88 : AFn := ⟨2, c88, r88,.v⟩

def c89 : ACode := .seq (.region [Ob 4 (.mov (.c (.bool false)))])
 (.seq (.region [Ob 5 (.mov (.t 0)),Ob 6 (.mov (.t 1)),Ob 7 (.call 105 [(.t 5), (.t 6)]),Ob 8 (.bin .geq (.t 7) (Ci 0)),Ob 4 (.mov (.t 8))])
 (.ret))
def r89 : List Res := [.t 4]
def a89 : AFn := ⟨2, c89, r89,.v⟩

def c90 : ACode := .seq (.region [Ob 2 (.box (.t 0) 8),Ob 3 (.mov (.c (.bool false)))])
 (.seq (.region [Ob 4 (.load (.t 1) none),Ob 5 (.load (.t 2) (some 8)),Ob 6 (.callv (.t 4) [(.t 5)]),Ob 7 (.not (.t 6)),Ob 3 (.mov (.t 7))])
 (.ret))
def r90 : List Res := [.t 3]
def a90 : AFn := ⟨2, c90, r90,.v⟩

def c91 : ACode := .seq (.region [Ob 7 (.addr (.t 1) 2),Ob 8 (.load (.t 7) none),Ob 5 (.mov (.t 8))])
 (.block 0 (.loop (.seq (.seq (.region [Ob 9 (.mov (.t 5)),Ob 10 (.addr (.t 1) 3),Ob 11 (.load (.t 10) none),Ob 12 (.bin .leq (.t 9) (.t 11))])
 (.cond (.t 12) (.skip)
 (.exit 0)))
 (.seq (.block 1 (.seq (.region [Ob 15 (.addr (.t 1) 4),Ob 16 (.load (.t 15) none),Ob 6 (.mov (.t 16))])
 (.block 2 (.loop (.seq (.seq (.region [Ob 17 (.mov (.t 6)),Ob 18 (.addr (.t 1) 5),Ob 19 (.load (.t 18) none),Ob 20 (.bin .leq (.t 17) (.t 19))])
 (.cond (.t 20) (.skip)
 (.exit 2)))
 (.seq (.block 3 (.seq (.region [Ob 23 (.mov (.t 0)),Ob 24 (.load (.t 2) (some 5)),Ob 25 (.load (.t 1) (some 8)),Ob 26 (.load (.t 3) none),Ob 27 (.mov (.t 5)),Ob 28 (.mov (.t 6)),Ob 29 (.call 92 [(.t 24), (.t 25), (.t 26), (.t 27), (.t 28)]),Ob 30 (.callv (.t 23) [(.t 29)]),Ob 31 (.not (.t 30))])
 (.cond (.t 31) (.ret)
 (.skip))))
 (.region [Ob 21 (.mov (.t 6)),Ob 22 (.bin .add (.t 21) (Ci 1)),Ob 6 (.mov (.t 22))])))))))
 (.region [Ob 13 (.mov (.t 5)),Ob 14 (.bin .add (.t 13) (Ci 1)),Ob 5 (.mov (.t 14))])))))
def r91 : List Res := []
def a91 : AFn := ⟨4, c91, r91,.v⟩

def c92 : ACode := .seq (.region [Ob 5 (.box (.t 0) 5),Ob 6 (.box (.t 1) 8),Ob 10 (.mov (Ci 0))])
 (.seq (.region [Ob 11 (.mov (Ci 0))])
 (.seq (.seq (.region [Ob 14 (.addr (.t 5) 1),Ob 15 (.load (.t 14) none),Ob 16 (.len (.t 15)),Ob 17 (.mov (Ci 0))])
 (.block 0 (.loop (.seq (.region [Ob 18 (.bin .lss (.t 17) (.t 16))])
 (.seq (.cond (.t 18) (.skip)
 (.exit 0))
 (.seq (.block 1 (.seq (.region [Ob 19 (.mov (.t 17)),Ob 20 (.idx (.t 15) (.t 17) 1),Ob 21 (.load (.t 20) none),Ob 12 (.mov (.t 19)),Ob 13 (.mov (.t 21))])
 (.seq (.region [Ob 22 (.mov (.t 13)),Ob 23 (.addr (.t 6) 6),Ob 24 (.load (.t 23) none),Ob 25 (.bin .geq (.t 22) (.t 24)),Ob 26 (.mov (.t 25)),Og 27 26 true (.mov (.t 2)),Og 28 26 true (.load (.t 5) (some 5)),Og 29 26 true (.mov (.t 3)),Og 30 26 true (.mov (.t 12)),Og 31 26 true (.mov (.t 4)),Og 32 26 true (.call 106 [(.t 28), (.t 29), (.t 30), (.t 31)]),Og 33 26 true (.call 96 [(.t 27), (.t 32)]),Ob 34 (.pick (.t 26) (.t 33) (.c (.bool false)))])
 (.cond (.t 34) (.region [Ob 35 (.mov (.t 11)),Ob 36 (.bin .add (.t 35) (Ci 1)),Ob 11 (.mov (.t 36))])
 (.skip)))))
 (.region [Ob 37 (.bin .add (.t 17) (Ci 1)),Ob 17 (.mov (.t 37))])))))))
 (.seq (.region [Ob 38 (.mov (.t 11)),Ob 10 (.mov (.t 38))])
 (.ret))))
def r92 : List Res := [.t 10]
def a92 : AFn := ⟨5, c92, r92,.v⟩

def c93 : ACode := .seq (.region [Ob 4 (.box (.t 0) 5),Ob 5 (.box (.t 1) 8),Ob 8 (.mov (.c (.bool false)))])
 (.seq (.skip)
 (.seq (.seq (.region [Ob 12 (.addr (.t 4) 1),Ob 13 (.load (.t 12) none),Ob 14 (.len (.t 13)),Ob 15 (.mov (Ci 0))])
 (.block 0 (.loop (.seq (.region [Ob 16 (.bin .lss (.t 15) (.t 14))])
 (.seq (.cond (.t 16) (.skip)
 (.exit 0))
 (.seq (.block 1 (.seq (.region [Ob 17 (.mov (.t 15)),Ob 18 (.idx (.t 13) (.t 15) 1),Ob 19 (.load (.t 18) none),Ob 9 (.mov (.t 17)),Ob 10 (.mov (.t 19))])
 (.seq (.seq (.region [Ob 20 (.mov (.t 10)),Ob 21 (.addr (.t 5) 6),Ob 22 (.load (.t 21) none),Ob 23 (.bin .lss (.t 20) (.t 22))])
 (.cond (.t 23) (.exit 1)
 (.skip)))
 (.seq (.seq (.region [Ob 24 (.addr (.t 5) 4),Ob 25 (.load (.t 24) none),Ob 11 (.mov (.t 25))])
 (.block 2 (.loop (.seq (.seq (.region [Ob 26 (.mov (.t 11)),Ob 27 (.addr (.t 5) 5),Ob 28 (.load (.t 27) none),Ob 29 (.bin .leq (.t 26) (.t 28))])
 (.cond (.t 29) (.skip)
 (.exit 2)))
 (.seq (.block 3 (.seq (.region [Ob 32 (.mov (.t 2)),Ob 33 (.load (.t 4) (some 5)),Ob 34 (.mov (.t 3)),Ob 35 (.mov (.t 9)),Ob 36 (.mov (.t 11)),Ob 37 (.call 106 [(.t 33), (.t 34), (.t 35), (.t 36)]),Ob 38 (.call 96 [(.t 32), (.t 37)]),Ob 39 (.not (.t 38))])
 (.cond (.t 39) (.exit 1)
 (.skip))))
 (.region [Ob 30 (.mov (.t 11)),Ob 31 (.bin .add (.t 30) (Ci 1)),Ob 11 (.mov (.t 31))]))))))
 (.seq (.region [Ob 8 (.mov (.c (.bool true)))])
 (.ret))))))
 (.region [Ob 40 (.bin .add (.t 15) (Ci 1)),Ob 15 (.mov (.t 40))])))))))
 (.seq (.region [Ob 8 (.mov (.c (.bool false)))])
 (.ret))))
def r93 : List Res := [.t 8]
def a93 : AFn := ⟨4, c93, r93,.v⟩

def c94 : ACode := .seq (.region [Ob 9 (.box (.t 0) 5),Ob 11 (.box (.t 2) 8),Ob 18 (.mov (Ci 0))])
 (.seq (.region [Ob 19 (.mov (Ci 0))])
 (.seq (.seq (.region [Ob 23 (.mov (.t 3)),Ob 20 (.mov (.t 23))])
 (.block 0 (.loop (.seq (.seq (.region [Ob 24 (.mov (.t 20)),Ob 25 (.mov (.t 4)),Ob 26 (.bin .leq (.t 24) (.t 25))])
 (.cond (.t 26) (.skip)
 (.exit 0)))
 (.seq (.block 1 (.seq (.region [Ob 29 (.mov (.t 7)),Ob 21 (.mov (.t 29))])
 (.block 2 (.loop (.seq (.seq (.region [Ob 30 (.mov (.t 21)),Ob 31 (.mov (.t 8)),Ob 32 (.bin .leq (.t 30) (.t 31))])
 (.cond (.t 32) (.skip)
 (.exit 2)))
 (.seq (.block 3 (.seq (.region [Ob 35 (.mov (.t 5)),Ob 22 (.mov (.t 35))])
 (.block 4 (.loop (.seq (.seq (.region [Ob 36 (.mov (.t 22)),Ob 37 (.mov (.t 6)),Ob 38 (.bin .leq (.t 36) (.t 37))])
 (.cond (.t 38) (.skip)
 (.exit 4)))
 (.seq (.block 5 (.seq (.region [Ob 41 (.addr (.t 9) 1),Ob 42 (.load (.t 41) none),Ob 43 (.mov (.t 21)),Ob 44 (.idx (.t 42) (.t 43) 1),Ob 45 (.load (.t 44) none),Ob 46 (.addr (.t 11) 6),Ob 47 (.load (.t 46) none),Ob 48 (.bin .geq (.t 45) (.t 47)),Ob 49 (.mov (.t 48)),Og 50 49 true (.mov (.t 1)),Og 51 49 true (.load (.t 9) (some 5)),Og 52 49 true (.mov (.t 20)),Og 53 49 true (.mov (.t 21)),Og 54 49 true (.mov (.t 22)),Og 55 49 true (.call 33 [(.t 51), (.t 52), (.t 53), (.t 54)]),Og 56 49 true (.idx (.t 50) (.t 55) 1),Og 57 49 true (.load (.t 56) none),Og 58 49 true (.addr (.t 11) 1),Og 59 49 true (.load (.t 58) none),Og 60 49 true (.bin .eql (.t 57) (.t 59)),Ob 61 (.pick (.t 49) (.t 60) (.c (.bool false)))])
 (.cond (.t 61) (.region [Ob 62 (.mov (.t 19)),Ob 63 (.bin .add (.t 62) (Ci 1)),Ob 19 (.mov (.t 63))])
 (.skip))))
 (.region [Ob 39 (.mov (.t 22)),Ob 40 (.bin .add (.t 39) (Ci 1)),Ob 22 (.mov (.t 40))])))))))
 (.region [Ob 33 (.mov (.t 21)),Ob 34 (.bin .add (.t 33) (Ci 1)),Ob 21 (.mov (.t 34))])))))))
 (.region [Ob 27 (.mov (.t 20)),Ob 28 (.bin .add (.t 27) (Ci 1)),Ob 20 (.mov (.t 28))]))))))
 (.seq (.region [Ob 64 (.mov (.t 19)),Ob 18 (.mov (.t 64))])
 (.ret))))
def r94 : List Res := [.t 18]
def a94 : AFn := ⟨9, c94, r94,.v⟩

def c95 : ACode := .seq (.region [Ob 2 (.mov (Ci 0))])
 (.seq (.cond (.c (.bool false)) (.seq (.region [Ob 3 (.mov (.t 0)),Ob 4 (.conv .u32 (.t 3)),Ob 5 (.call 107 [(.t 4)]),Ob 2 (.mov (.t 5))])
 (.ret))
 (.skip))
 (.seq (.region [Ob 6 (.mov (.t 0)),Ob 7 (.call 108 [(.t 6)]),Ob 2 (.mov (.t 7))])
 (.ret)))
def r95 : List Res := [.t 2]
def a95 : AFn := ⟨1, c95, r95,.v⟩

def c96 : ACode := .seq (.region [Ob 4 (.mov (.c (.bool false)))])
 (.seq (.region [Ob 5 (.mov (.t 0)),Ob 6 (.mov (.t 1)),Ob 7 (.bin .shr (.t 5) (.t 6)),Ob 8 (.bin .and (.t 7) (.c (.int .u64 1))),Ob 9 (.bin .eql (.t 8) (.c (.int .u64 1))),Ob 4 (.mov (.t 9))])
 (.ret))
def r96 : List Res := [.t 4]
def a96 : AFn := ⟨2, c96, r96,.v⟩

def c97 : ACode := .seq (.region [Ob 1 (.box (.t 0) 5),Ob 2 (.mov (.c .nilf))])
 (.seq (.region [Ob 3 (.clo 109 [] [(.t 1)]),Ob 2 (.mov (.t 3))])
 (.ret))
def r97 : List Res := [.t 2]
def a97 : AFn := ⟨1, c97, r97,.r⟩

def c98 : ACode := .seq (.region [Ob 3 (.box (.t 0) 1),Ob 4 (.box (.t 1) 1),Ob 5 (.box (.t 2) 1),Ob 6 (.mov (.c .nilf))])
 (.seq (.region [Ob 7 (.clo 110 [] [(.t 3), (.t 4), (.t 5)]),Ob 6 (.mov (.t 7))])
 (.ret))
def r98 : List Res := [.t 6]
def a98 : AFn := ⟨3, c98, r98,.r⟩

def c99 : ACode := .seq (.region [Ob 2 (.box (.t 0) 5),Ob 3 (.box (.t 1) 1),Ob 4 (.mov (.c (.sl [] .tight)))])
 (.seq (.region [Ob 7 (.load (.t 2) (some 5)),Ob 8 (.call 61 [(.t 7)]),Ob 9 (.bin .shl (Ci 1) (.t 8)),Ob 10 (.make (.agg [(.int .i64 0), (.int .u64 0)]) 71 2 16 (.t 9) (.t 9)),Ob 5 (.new (.sl [] .tight) 1),On (.store (.t 5) (.t 10) 1)])
 (.seq (.seq (.region [Ob 11 (.load (.t 2) (some 5)),Ob 12 (.call 61 [(.t 11)]),Ob 13 (.call 80 [(.t 12)]),Ob 14 (.call 78 [(.t 13)])])
 (.block 0 (.range (.t 14) [15] (.region [Ob 6 (.mov (.t 15))])
 (.block 1 (.region [Ob 16 (.load (.t 5) none),Ob 17 (.mov (.t 6)),Ob 18 (.load (.t 2) (some 5)),Ob 19 (.load (.t 3) none),Ob 20 (.mov (.t 6)),Ob 21 (.call 47 [(.t 18), (.t 19), (.t 20)]),Ob 22 (.load (.t 2) (some 5)),Ob 23 (.load (.t 3) none),Ob 24 (.mov (.t 6)),Ob 25 (.call 112 [(.t 22), (.t 23), (.t 24)]),Ob 26 (.build [(.int .i64 0), (.int .u64 0)] [(0, 1, (.t 21)), (1, 1, (.t 25))]),Ob 27 (.idx (.t 16) (.t 17) 2),On (.store (.t 27) (.t 26) 2)])))))
 (.seq (.region [Ob 28 (.load (.t 5) none),Ob 4 (.mov (.t 28))])
 (.ret))))
def r99 : List Res := [.t 4]
def a99 : AFn := ⟨2, c99, r99,.v⟩

def c100 : ACode := .seq (.region [Ob 3 (.mov (.c (.int .u64 0)))])
 (.block 0 (.loop (.seq (.seq (.region [Ob 4 (.mov (.t 0)),Ob 5 (.mov (.t 3)),Ob 6 (.callv (.t 4) [(.t 5)]),Ob 7 (.mov (.t 6)),Og 8 7 true (.mov (.t 3)),Og 9 7 true (.load (.t 1) none),Og 10 7 true (.bin .neq (.t 8) (.t 9)),Ob 11 (.pick (.t 7) (.t 10) (.c (.bool false)))])
 (.cond (.t 11) (.skip)
 (.exit 0)))
 (.block 1 (.region [Ob 12 (.mov (.t 3)),Ob 13 (.load (.t 1) none),Ob 14 (.bin .sub (.t 12) (.t 13)),Ob 15 (.load (.t 1) none),Ob 16 (.bin .and (.t 14) (.t 15)),Ob 3 (.mov (.t 16))])))))
def r100 : List Res := []
def a100 : AFn := ⟨2, c100, r100,.v⟩

def c101 : ACode := .seq (.region [Ob 4 (.mov (Ci 0))])
 (.seq (.seq (.region [Ob 9 (.mov (.t 0)),Ob 10 (.len (.t 9)),Ob 11 (.mov (Ci 0))])
 (.block 0 (.loop (.seq (.region [Ob 12 (.bin .lss (.t 11) (.t 10))])
 (.seq (.cond (.t 12) (.skip)
 (.exit 0))
 (.seq (.block 1 (.seq (.region [Ob 13 (.mov (.t 11)),Ob 14 (.idx (.t 9) (.t 11) 1),Ob 15 (.load (.t 14) none),Ob 5 (.mov (.t 13)),Ob 6 (.mov (.t 15))])
 (.seq (.seq (.region [Ob 16 (.mov (.t 5)),Ob 17 (.mov (.t 1)),Ob 18 (.len (.t 17)),Ob 19 (.bin .geq (.t 16) (.t 18))])
 (.cond (.t 19) (.seq (.region [Ob 4 (.mov (Ci 1))])
 (.ret))
 (.skip)))
 (.seq (.region [Ob 20 (.mov (.t 1)),Ob 21 (.mov (.t 5)),Ob 22 (.idx (.t 20) (.t 21) 1),Ob 23 (.load (.t 22) none),Ob 7 (.mov (.t 23))])
 (.seq (.region [Ob 24 (.mov (.t 6)),Ob 25 (.mov (.t 7)),Ob 26 (.call 113 [(.t 24), (.t 25)]),Ob 8 (.mov (.t 26))])
 (.seq (.region [Ob 27 (.mov (.t 8)),Ob 28 (.bin .neq (.t 27) (Ci 0))])
 (.cond (.t 28) (.seq (.region [Ob 29 (.mov (.t 8)),Ob 4 (.mov (.t 29))])
 (.ret))
 (.skip))))))))
 (.region [Ob 30 (.bin .add (.t 11) (Ci 1)),Ob 11 (.mov (.t 30))])))))))
 (.seq (.seq (.region [Ob 31 (.mov (.t 0)),Ob 32 (.len (.t 31)),Ob 33 (.mov (.t 1)),Ob 34 (.len (.t 33)),Ob 35 (.bin .lss (.t 32) (.t 34))])
 (.cond (.t 35) (.seq (.region [Ob 4 (.mov (Ci (-1)))])
 (.ret))
 (.skip)))
 (.seq (.region [Ob 4 (.mov (Ci 0))])
 (.ret))))
def r101 : List Res := [.t 4]
def a101 : AFn := ⟨2, c101, r101,.v⟩

def c102 : ACode := .seq (.region [Ob 4 (.mov (.c (.int .u64 0))),Ob 5 (.mov (.c (.int .u64 0)))])
 (.seq (.cond (.c (.bool false)) (.seq (.region [Ob 11 (.mov (.t 0)),Ob 12 (.conv .u32 (.t 11)),Ob 13 (.mov (.t 1)),Ob 14 (.conv .u32 (.t 13)),Ob 15 (.call 114 [(.t 12), (.t 14)]),Ob 10 (.mov (.t 15)),Ob 16 (.ext (.t 10) 0),Ob 17 (.ext (.t 10) 1),Ob 6 (.mov (.t 16)),Ob 7 (.mov (.t 17))])
 (.seq (.region [Ob 18 (.mov (.t 6)),Ob 19 (.conv .u64 (.t 18)),Ob 20 (.mov (.t 7)),Ob 21 (.conv .u64 (.t 20)),Ob 4 (.mov (.t 19)),Ob 5 (.mov (.t 21))])
 (.ret)))
 (.skip))
 (.seq (.region [Ob 23 (.mov (.t 0)),Ob 24 (.mov (.t 1)),Ob 25 (.call 115 [(.t 23), (.t 24)]),Ob 22 (.mov (.t 25)),Ob 26 (.ext (.t 22) 0),Ob 27 (.ext (.t 22) 1),Ob 8 (.mov (.t 26)),Ob 9 (.mov (.t 27))])
 (.seq (.region [Ob 28 (.mov (.t 8)),Ob 29 (.mov (.t 9)),Ob 4 (.mov (.t 28)),Ob 5 (.mov (.t 29))])
 (.ret))))
def r102 : List Res := [.t 4,.t 5]
def a102 : AFn := ⟨2, c102, r102,.v⟩

def c103 : ACode := .seq (.region [Ob 4 (.mov (Ci 0))])
 (.seq (.seq (.region [Ob 6 (.mov (.t 0)),Ob 7 (.len (.t 6)),Ob 8 (.mov (Ci 0))])
 (.block 0 (.loop (.seq (.region [Ob 9 (.bin .lss (.t 8) (.t 7))])
 (.seq (.cond (.t 9) (.skip)
 (.exit 0))
 (.seq (.block 1 (.seq (.region [Ob 10 (.mov (.t 8)),Ob 5 (.mov (.t 10))])
 (.seq (.region [Ob 11 (.mov (.t 1)),Ob 12 (.mov (.t 0)),Ob 13 (.mov (.t 5)),Ob 14 (.idx (.t 12) (.t 13) 1),Ob 15 (.load (.t 14) none),Ob 16 (.callv (.t 11) [(.t 15)])])
 (.cond (.t 16) (.seq (.region [Ob 17 (.mov (.t 5)),Ob 4 (.mov (.t 17))])
 (.ret))
 (.skip)))))
 (.region [Ob 18 (.bin .add (.t 8) (Ci 1)),Ob 8 (.mov (.t 18))])))))))
 (.seq (.region [Ob 4 (.mov (Ci (-1)))])
 (.ret)))
def r103 : List Res := [.t 4]
def a103 : AFn := ⟨2, c103, r103,.v⟩

def c104 : ACode := .seq (.region [Ob 4 (.mov (Ci 0))])
 (.seq (.seq (.region [Ob 6 (.mov (.t 0)),Ob 7 (.len (.t 6)),Ob 8 (.mov (Ci 0))])
 (.block 0 (.loop (.seq (.region [Ob 9 (.bin .lss (.t 8) (.t 7))])
 (.seq (.cond (.t 9) (.skip)
 (.exit 0))
 (.seq (.block 1 (.seq (.region [Ob 10 (.mov (.t 8)),Ob 5 (.mov (.t 10))])
 (.seq (.region [Ob 11 (.mov (.t 1)),Ob 12 (.mov (.t 0)),Ob 13 (.mov (.t 5)),Ob 14 (.idx (.t 12) (.t 13) 2),Ob 15 (.load (.t 14) (some 2)),Ob 16 (.callv (.t 11) [(.t 15)])])
 (.cond (.t 16) (.seq (.region [Ob 17 (.mov (.t 5)),Ob 4 (.mov (.t 17))])
 (.ret))
 (.skip)))))
 (.region [Ob 18 (.bin .add (.t 8) (Ci 1)),Ob 8 (.mov (.t 18))])))))))
 (.seq (.region [Ob 4 (.mov (Ci (-1)))])
 (.ret)))
def r104 : List Res := [.t 4]
def a104 : AFn := ⟨2, c104, r104,.v⟩

def c105 : ACode := .seq (.region [Ob 4 (.mov (Ci 0))])
 (.seq (.seq (.region [Ob 6 (.mov (.t 0)),Ob 7 (.len (.t 6)),Ob 8 (.mov (Ci 0))])
 (.block 0 (.loop (.seq (.region [Ob 9 (.bin .lss (.t 8) (.t 7))])
 (.seq (.cond (.t 9) (.skip)
 (.exit 0))
 (.seq (.block 1 (.seq (.region [Ob 10 (.mov (.t 8)),Ob 5 (.mov (.t 10))])
 (.seq (.region [Ob 11 (.mov (.t 1)),Ob 12 (.mov (.t 0)),Ob 13 (.mov (.t 5)),Ob 14 (.idx (.t 12) (.t 13) 8),Ob 15 (.load (.t 14) (some 8)),Ob 16 (.callv (.t 11) [(.t 15)])])
 (.cond (.t 16) (.seq (.region [Ob 17 (.mov (.t 5)),Ob 4 (.mov (.t 17))])
 (.ret))
 (.skip)))))
 (.region [Ob 18 (.bin .add (.t 8) (Ci 1)),Ob 8 (.mov (.t 18))])))))))
 (.seq (.region [Ob 4 (.mov (Ci (-1)))])
 (.ret)))
def r105 : List Res := [.t 4]
def a105 : AFn := ⟨2, c105, r105,.v⟩

def c106 : ACode := .seq (.region [Ob 4 (.box (.t 0) 5),Ob 8 (.mov (Ci 0))])
 (.seq (.region [Ob 9 (.mov (.t 1)),Ob 10 (.addr (.t 4) 1),Ob 11 (.load (.t 10) none),Ob 12 (.len (.t 11)),Ob 13 (.bin .mul (.t 9) (.t 12)),Ob 14 (.mov (.t 2)),Ob 15 (.bin .add (.t 13) (.t 14)),Ob 16 (.addr (.t 4) 2),Ob 17 (.load (.t 16) none),Ob 18 (.bin .mul (.t 15) (.t 17)),Ob 19 (.mov (.t 3)),Ob 20 (.bin .add (.t 18) (.t 19)),Ob 8 (.mov (.t 20))])
 (.ret))
def r106 : List Res := [.t 8]
def a106 : AFn := ⟨4, c106, r106,.v⟩

def c107 : ACode := .seq (.region [Ob 2 (.mov (Ci 0))])
 (.seq (.seq (.region [Ob 3 (.mov (.t 0)),Ob 4 (.bin .geq (.t 3) (.c (.int .u32 65536)))])
 (.cond (.t 4) (.seq (.region [Ob 5 (.mov (.t 0)),Ob 6 (.bin .shr (.t 5) (.c (.int .u64 16))),Ob 0 (.mov (.t 6))])
 (.region [Ob 2 (.mov (Ci 16))]))
 (.skip)))
 (.seq (.seq (.region [Ob 7 (.mov (.t 0)),Ob 8 (.bin .geq (.t 7) (.c (.int .u32 256)))])
 (.cond (.t 8) (.seq (.region [Ob 9 (.mov (.t 0)),Ob 10 (.bin .shr (.t 9) (.c (.int .u64 8))),Ob 0 (.mov (.t 10))])
 (.region [Ob 11 (.mov (.t 2)),Ob 12 (.bin .add (.t 11) (Ci 8)),Ob 2 (.mov (.t 12))]))
 (.skip)))
 (.seq (.region [Ob 13 (.mov (.t 2)),Ob 14 (.mov (.t 0)),Ob 15 (.conv .u8 (.t 14)),⟨some 16,none,.sidx (.c (.str ⟨#[0, 1, 2, 2, 3, 3, 3, 3, 4, 4, 4, 4, 4, 4, 4, 4, 5, 5, 5, 5, 5, 5, 5, 5, 5, 5, 5, 5, 5, 5, 5, 5, 6, 6, 6, 6, 6, 6, 6, 6, 6, 6, 6, 6, 6, 6, 6, 6, 6, 6, 6, 6, 6, 6, 6, 6, 6, 6, 6, 6, 6, 6, 6, 6, 7, 7, 7, 7, 7, 7, 7, 7, 7, 7, 7, 7, 7, 7, 7, 7, 7, 7, 7, 7, 7, 7, 7, 7, 7, 7, 7, 7, 7, 7, 7, 7, 7, 7, 7, 7, 7, 7, 7, 7, 7, 7, 7, 7, 7, 7, 7, 7, 7, 7, 7, 7, 7, 7, 7, 7, 7, 7, 7, 7, 7, 7, 7, 7, 8, 8, 8, 8, 8, 8, 8, 8, 8, 8, 8, 8, 8, 8, 8, 8, 8, 8, 8, 8, 8, 8, 8, 8, 8, 8, 8, 8, 8, 8, 8, 8, 8, 8, 8, 8, 8, 8, 8, 8, 8, 8, 8, 8, 8, 8, 8, 8, 8, 8, 8, 8, 8, 8, 8, 8, 8, 8, 8, 8, 8, 8, 8, 8, 8, 8, 8, 8, 8, 8, 8, 8, 8, 8, 8, 8, 8, 8, 8, 8, 8, 8, 8, 8, 8, 8, 8, 8, 8, 8, 8, 8, 8, 8, 8, 8, 8, 8, 8, 8, 8, 8, 8, 8, 8, 8, 8, 8, 8, 8, 8, 8, 8, 8, 8, 8, 8, 8, 8, 8, 8, 8, 8, 8, 8, 8, 8, 8]⟩)) (.t 15)⟩,Ob 17 (.conv .i64 (.t 16)),Ob 18 (.bin .add (.t 13) (.t 17)),Ob 2 (.mov (.t 18))])
 (.ret))))
def r107 : List Res := [.t 2]
def a107 : AFn := ⟨1, c107, r107,.v⟩

def c108 : ACode := .seq (.region [Ob 2 (.mov (Ci 0))])
 (.seq (.seq (.region [Ob 3 (.mov (.t 0)),Ob 4 (.bin .geq (.t 3) (.c (.int .u64 4294967296)))])
 (.cond (.t 4) (.seq (.region [Ob 5 (.mov (.t 0)),Ob 6 (.bin .shr (.t 5) (.c (.int .u64 32))),Ob 0 (.mov (.t 6))])
 (.region [Ob 2 (.mov (Ci 32))]))
 (.skip)))
 (.seq (.seq (.region [Ob 7 (.mov (.t 0)),Ob 8 (.bin .geq (.t 7) (.c (.int .u64 65536)))])
 (.cond (.t 8) (.seq (.region [Ob 9 (.mov (.t 0)),Ob 10 (.bin .shr (.t 9) (.c (.int .u64 16))),Ob 0 (.mov (.t 10))])
 (.region [Ob 11 (.mov (.t 2)),Ob 12 (.bin .add (.t 11) (Ci 16)),Ob 2 (.mov (.t 12))]))
 (.skip)))
 (.seq (.seq (.region [Ob 13 (.mov (.t 0)),Ob 14 (.bin .geq (.t 13) (.c (.int .u64 256)))])
 (.cond (.t 14) (.seq (.region [Ob 15 (.mov (.t 0)),Ob 16 (.bin .shr (.t 15) (.c (.int .u64 8))),Ob 0 (.mov (.t 16))])
 (.region [Ob 17 (.mov (.t 2)),Ob 18 (.bin .add (.t 17) (Ci 8)),Ob 2 (.mov (.t 18))]))
 (.skip)))
 (.seq (.region [Ob 19 (.mov (.t 2)),Ob 20 (.mov (.t 0)),Ob 21 (.conv .u8 (.t 20)),⟨some 22,none,.sidx (.c (.str ⟨#[0, 1, 2, 2, 3, 3, 3, 3, 4, 4, 4, 4, 4, 4, 4, 4, 5, 5, 5, 5, 5, 5, 5, 5, 5, 5, 5, 5, 5, 5, 5, 5, 6, 6, 6, 6, 6, 6, 6, 6, 6, 6, 6, 6, 6, 6, 6, 6, 6, 6, 6, 6, 6, 6, 6, 6, 6, 6, 6, 6, 6, 6, 6, 6, 7, 7, 7, 7, 7, 7, 7, 7, 7, 7, 7, 7, 7, 7, 7, 7, 7, 7, 7, 7, 7, 7, 7, 7, 7, 7, 7, 7, 7, 7, 7, 7, 7, 7, 7, 7, 7, 7, 7, 7, 7, 7, 7, 7, 7, 7, 7, 7, 7, 7, 7, 7, 7, 7, 7, 7, 7, 7, 7, 7, 7, 7, 7, 7, 8, 8, 8, 8, 8, 8, 8, 8, 8, 8, 8, 8, 8, 8, 8, 8, 8, 8, 8, 8, 8, 8, 8, 8, 8, 8, 8, 8, 8, 8, 8, 8, 8, 8, 8, 8, 8, 8, 8, 8, 8, 8, 8, 8, 8, 8, 8, 8, 8, 8, 8, 8, 8, 8, 8, 8, 8, 8, 8, 8, 8, 8, 8, 8, 8, 8, 8, 8, 8, 8, 8, 8, 8, 8, 8, 8, 8, 8, 8, 8, 8, 8, 8, 8, 8, 8, 8, 8, 8, 8, 8, 8, 8, 8, 8, 8, 8, 8, 8, 8, 8, 8, 8, 8, 8, 8, 8, 8, 8, 8, 8, 8, 8, 8, 8, 8, 8, 8, 8, 8, 8, 8, 8, 8, 8, 8, 8, 8]⟩)) (.t 21)⟩,Ob 23 (.conv .i64 (.t 22)),Ob 24 (.bin .add (.t 19) (.t 23)),Ob 2 (.mov (.t 24))])
 (.ret)))))
def r108 : List Res := [.t 2]
def a108 : AFn := ⟨1, c108, r108,.v⟩

def c109 : ACode := .region [Ob 3 (.mov (.t 0)),Ob 4 (.load (.t 1) (some 5)),Ob 5 (.call 53 [(.t 4)]),Ob 6 (.build [(.int .i64 0), (.int .u64 0)] [(1, 1, (.t 5))]),Ob 7 (.load (.t 1) (some 5)),Ob 8 (.call 61 [(.t 7)]),Ob 9 (.call 80 [(.t 8)]),Ob 10 (.build [(.int .i64 0), (.int .u64 0), (.int .u64 0), (.int .u64 0), (.int .u64 0), (.int .u64 0), (.int .u64 0)] [(0, 2, (.t 6)), (6, 1, (.t 9))]),Ob 11 (.callv (.t 3) [(.t 10)])]
def r109 : List Res := []
def a109 : AFn := ⟨2, c109, r109,.v⟩

def c110 : ACode := .seq (.region [Ob 4 (.box (.t 0) 1)])
 (.seq (.region [Ob 7 (.load (.t 1) none)])
 (.block 0 (.range (.t 7) [8] (.region [Ob 5 (.new (.agg [(.int .i64 0), (.int .u64 0), (.int .u64 0), (.int .u64 0), (.int .u64 0), (.int .u64 0), (.int .u64 0)]) 7),On (.store (.t 5) (.t 8) 7)])
 (.block 1 (.seq (.region [Ob 9 (.addr (.t 5) 6),Ob 10 (.load (.t 9) none),Ob 11 (.call 78 [(.t 10)])])
 (.block 2 (.range (.t 11) [12] (.region [Ob 6 (.mov (.t 12))])
 (.block 3 (.seq (.region [Ob 13 (.load (.t 4) none),Ob 14 (.load (.t 5) (some 7)),Ob 15 (.load (.t 2) none),Ob 16 (.mov (.t 6)),Ob 17 (.load (.t 3) none),Ob 18 (.mov (.t 6)),Ob 19 (.idx (.t 17) (.t 18) 2),Ob 20 (.load (.t 19) (some 2)),Ob 21 (.call 111 [(.t 14), (.t 15), (.t 16), (.t 20)]),Ob 22 (.callv (.t 13) [(.t 21)]),Ob 23 (.not (.t 22))])
 (.cond (.t 23) (.ret)
 (.skip)))))))))))
def r110 : List Res := []
def a110 : AFn := ⟨4, c110, r110,.v⟩

def c111 : ACode := .seq (.region [Ob 4 (.box (.t 0) 7),Ob 7 (.box (.t 3) 2),Ob 8 (.new (.agg [(.int .i64 0), (.int .u64 0), (.int .u64 0), (.int .u64 0), (.int .u64 0), (.int .u64 0), (.int .u64 0)]) 7)])
 (.seq (.region [Ob 9 (.addr (.t 4) 0),Ob 10 (.addr (.t 9) 0),Ob 11 (.load (.t 10) none),Ob 12 (.addr (.t 7) 0),Ob 13 (.load (.t 12) none),Ob 14 (.bin .add (.t 11) (.t 13)),Ob 15 (.addr (.t 4) 0),Ob 16 (.addr (.t 15) 0),On (.store (.t 16) (.t 14) 1)])
 (.seq (.region [Ob 17 (.addr (.t 4) 0),Ob 18 (.addr (.t 17) 1),Ob 19 (.load (.t 18) none),Ob 20 (.addr (.t 7) 1),Ob 21 (.load (.t 20) none),Ob 22 (.bin .and (.t 19) (.t 21)),Ob 23 (.addr (.t 4) 0),Ob 24 (.addr (.t 23) 1),On (.store (.t 24) (.t 22) 1)])
 (.seq (.region [Ob 25 (.mov (.t 1)),Ob 26 (.mov (.t 2)),Ob 27 (.addr (.t 4) 2),Ob 28 (.aidx (.t 27) (.t 25) 4 1),On (.store (.t 28) (.t 26) 1)])
 (.seq (.region [Ob 29 (.addr (.t 4) 6),Ob 30 (.load (.t 29) none),Ob 31 (.mov (.t 2)),Ob 32 (.bin .andNot (.t 30) (.t 31)),Ob 33 (.addr (.t 4) 6),On (.store (.t 33) (.t 32) 1)])
 (.seq (.region [Ob 34 (.load (.t 4) (some 7)),On (.store (.t 8) (.t 34) 7)])
 (.ret))))))
def r111 : List Res := [.cell 8 (some 7)]
def a111 : AFn := ⟨4, c111, r111,.v⟩

def c112 : ACode := .seq (.region [Ob 3 (.box (.t 0) 5),Ob 6 (.mov (.c (.int .u64 0)))])
 (.seq (.region [Ob 10 (.load (.t 3) (some 5)),Ob 11 (.call 53 [(.t 10)]),Ob 7 (.mov (.t 11))])
 (.seq (.seq (.region [Ob 12 (.addr (.t 3) 4),Ob 13 (.load (.t 12) none),Ob 14 (.len (.t 13)),Ob 15 (.mov (Ci 0))])
 (.block 0 (.loop (.seq (.region [Ob 16 (.bin .lss (.t 15) (.t 14))])
 (.seq (.cond (.t 16) (.skip)
 (.exit 0))
 (.seq (.block 1 (.seq (.region [Ob 17 (.mov (.t 15)),Ob 18 (.idx (.t 13) (.t 15) 8),Ob 19 (.load (.t 18) (some 8)),Ob 9 (.new (.agg [(.int .i64 0), (.int .i64 0), (.int .i64 0), (.int .i64 0), (.int .i64 0), (.int .i64 0), (.int .i64 0), (.int .i64 0)]) 8),Ob 8 (.mov (.t 17)),On (.store (.t 9) (.t 19) 8)])
 (.seq (.region [Ob 20 (.addr (.t 9) 1),Ob 21 (.load (.t 20) none),Ob 22 (.mov (.t 1)),Ob 23 (.bin .eql (.t 21) (.t 22)),Ob 24 (.mov (.t 23)),Og 25 24 true (.load (.t 3) (some 5)),Og 26 24 true (.load (.t 9) (some 8)),Og 27 24 true (.mov (.t 2)),Og 28 24 true (.call 43 [(.t 25), (.t 26), (.t 27)]),Og 29 24 true (.not (.t 28)),Ob 30 (.pick (.t 24) (.t 29) (.c (.bool false)))])
 (.cond (.t 30) (.region [Ob 31 (.mov (.t 7)),Ob 32 (.mov (.t 8)),Ob 33 (.call 59 [(.t 31), (.t 32)]),Ob 7 (.mov (.t 33))])
 (.skip)))))
 (.region [Ob 34 (.bin .add (.t 15) (Ci 1)),Ob 15 (.mov (.t 34))])))))))
 (.seq (.region [Ob 35 (.mov (.t 7)),Ob 6 (.mov (.t 35))])
 (.ret))))
def r112 : List Res := [.t 6]
def a112 : AFn := ⟨3, c112, r112,.v⟩

def c113 : ACode := .seq (.region [Ob 4 (.mov (Ci 0))])
 (.seq (.region [Ob 7 (.mov (.t 0)),Ob 8 (.call 116 [(.t 7)]),Ob 5 (.mov (.t 8))])
 (.seq (.region [Ob 9 (.mov (.t 1)),Ob 10 (.call 116 [(.t 9)]),Ob 6 (.mov (.t 10))])
 (.seq (.seq (.region [Ob 11 (.mov (.t 5))])
 (.cond (.t 11) (.seq (.seq (.region [Ob 12 (.mov (.t 6))])
 (.cond (.t 12) (.seq (.region [Ob 4 (.mov (Ci 0))])
 (.ret))
 (.skip)))
 (.seq (.region [Ob 4 (.mov (Ci (-1)))])
 (.ret)))
 (.skip)))
 (.seq (.seq (.region [Ob 13 (.mov (.t 6))])
 (.cond (.t 13) (.seq (.region [Ob 4 (.mov (Ci 1))])
 (.ret))
 (.skip)))
 (.seq (.seq (.region [Ob 14 (.mov (.t 0)),Ob 15 (.mov (.t 1)),Ob 16 (.bin .lss (.t 14) (.t 15))])
 (.cond (.t 16) (.seq (.region [Ob 4 (.mov (Ci (-1)))])
 (.ret))
 (.skip)))
 (.seq (.seq (.region [Ob 17 (.mov (.t 0)),Ob 18 (.mov (.t 1)),Ob 19 (.bin .gtr (.t 17) (.t 18))])
 (.cond (.t 19) (.seq (.region [Ob 4 (.mov (Ci 1))])
 (.ret))
 (.skip)))
 (.seq (.region [Ob 4 (.mov (Ci 0))])
 (.ret))))))))
def r113 : List Res := [.t 4]
def a113 : AFn := ⟨2, c113, r113,.v⟩

def c114 : ACode := .seq (.region [Ob 4 (.mov (.c (.int .u32 0))),Ob 5 (.mov (.c (.int .u32 0)))])
 (.seq (.region [Ob 7 (.mov (.t 0)),Ob 8 (.conv .u64 (.t 7)),Ob 9 (.mov (.t 1)),Ob 10 (.conv .u64 (.t 9)),Ob 11 (.bin .mul (.t 8) (.t 10)),Ob 6 (.mov (.t 11))])
 (.seq (.region [Ob 12 (.mov (.t 6)),Ob 13 (.bin .shr (.t 12) (.c (.int .u64 32))),Ob 14 (.conv .u32 (.t 13)),Ob 15 (.mov (.t 6)),Ob 16 (.conv .u32 (.t 15)),Ob 4 (.mov (.t 14)),Ob 5 (.mov (.t 16))])
 (.ret)))
def r114 : List Res := [.t 4,.t 5]
def a114 : AFn := ⟨2, c114, r114,.v⟩

def c115 : ACode := .seq (.region [Ob 4 (.mov (.c (.int .u64 0))),Ob 5 (.mov (.c (.int .u64 0)))])
 (.seq (.region [Ob 14 (.mov (.t 0)),Ob 15 (.bin .and (.t 14) (.c (.int .u64 4294967295))),Ob 6 (.mov (.t 15))])
 (.seq (.region [Ob 16 (.mov (.t 0)),Ob 17 (.bin .shr (.t 16) (.c (.int .u64 32))),Ob 7 (.mov (.t 17))])
 (.seq (.region [Ob 18 (.mov (.t 1)),Ob 19 (.bin .and (.t 18) (.c (.int .u64 4294967295))),Ob 8 (.mov (.t 19))])
 (.seq (.region [Ob 20 (.mov (.t 1)),Ob 21 (.bin .shr (.t 20) (.c (.int .u64 32))),Ob 9 (.mov (.t 21))])
 (.seq (.region [Ob 22 (.mov (.t 6)),Ob 23 (.mov (.t 8)),Ob 24 (.bin .mul (.t 22) (.t 23)),Ob 10 (.mov (.t 24))])
 (.seq (.region [Ob 25 (.mov (.t 7)),Ob 26 (.mov (.t 8)),Ob 27 (.bin .mul (.t 25) (.t 26)),Ob 28 (.mov (.t 10)),Ob 29 (.bin .shr (.t 28) (.c (.int .u64 32))),Ob 30 (.bin .add (.t 27) (.t 29)),Ob 11 (.mov (.t 30))])
 (.seq (.region [Ob 31 (.mov (.t 11)),Ob 32 (.bin .and (.t 31) (.c (.int .u64 4294967295))),Ob 12 (.mov (.t 32))])
 (.seq (.region [Ob 33 (.mov (.t 11)),Ob 34 (.bin .shr (.t 33) (.c (.int .u64 32))),Ob 13 (.mov (.t 34))])
 (.seq (.region [Ob 35 (.mov (.t 12)),Ob 36 (.mov (.t 6)),Ob 37 (.mov (.t 9)),Ob 38 (.bin .mul (.t 36) (.t 37)),Ob 39 (.bin .add (.t 35) (.t 38)),Ob 12 (.mov (.t 39))])
 (.seq (.region [Ob 40 (.mov (.t 7)),Ob 41 (.mov (.t 9)),Ob 42 (.bin .mul (.t 40) (.t 41)),Ob 43 (.mov (.t 13)),Ob 44 (.bin .add (.t 42) (.t 43)),Ob 45 (.mov (.t 12)),Ob 46 (.bin .shr (.t 45) (.c (.int .u64 32))),Ob 47 (.bin .add (.t 44) (.t 46)),Ob 4 (.mov (.t 47))])
 (.seq (.region [Ob 48 (.mov (.t 0)),Ob 49 (.mov (.t 1)),Ob 50 (.bin .mul (.t 48) (.t 49)),Ob 5 (.mov (.t 50))])
 (.ret))))))))))))
def r115 : List Res := [.t 4,.t 5]
def a115 : AFn := ⟨2, c115, r115,.v⟩

def c116 : ACode := .seq (.region [Ob 2 (.mov (.c (.bool false)))])
 (.seq (.region [Ob 3 (.mov (.t 0)),Ob 4 (.mov (.t 0)),Ob 5 (.bin .neq (.t 3) (.t 4)),Ob 2 (.mov (.t 5))])
 (.ret))
def r116 : List Res := [.t 2]
def a116 : AFn := ⟨1, c116, r116,.v⟩


def ft : FuncId → Option AFn
  | 3 => some a3
  | 4 => some a4
  | 5 => some a5
  | 6 => some a6
  | 7 => some a7
  | 8 => some a8
  | 9 => some a9
  | 10 => some a10
  | 11 => some a11
  | 12 => some a12
  | 13 => some a13
  | 14 => some a14
  | 15 => some a15
  | 16 => some a16
  | 17 => some a17
  | 18 => some a18
  | 19 => some a19
  | 20 => some a20
  | 21 => some a21
  | 22 => some a22
  | 23 => some a23
  | 24 => some a24
  | 25 => some a25
  | 26 => some a26
  | 27 => some a27
  | 28 => some a28
  | 29 => some a29
  | 30 => some a30
  | 31 => some a31
  | 32 => some a32
  | 33 => some a33
  | 34 => some a34
  | 35 => some a35
  | 36 => some a36
  | 37 => some a37
  | 38 => some a38
  | 39 => some a39
  | 40 => some a40
  | 41 => some a41
  | 42 => some a42
  | 43 => some a43
  | 44 => some a44
  | 45 => some a45
  | 46 => some a46
  | 47 => some a47
  | 48 => some a48
  | 49 => some a49
  | 50 => some a50
  | 51 => some a51
  | 52 => some a52
  | 53 => some a53
  | 54 => some a54
  | 55 => some a55
  | 56 => some a56
  | 57 => some a57
  | 58 => some a58
  | 59 => some a59
  | 60 => some a60
  | 61 => some a61
  | 62 => some a62
  | 63 => some a63
  | 64 => some a64
  | 65 => some a65
  | 66 => some a66
  | 67 => some a67
  | 68 => some a68
  | 69 => some a69
  | 70 => some a70
  | 71 => some a71
  | 72 => some a72
  | 73 => some a73
  | 74 => some a74
  | 75 => some a75
  | 76 => some a76
  | 77 => some a77
  | 78 => some a78
  | 79 => some a79
  | 80 => some a80
  | 81 => some a81
  | 82 => some a82
  | 83 => some a83
  | 84 => some a84
  | 85 => some a85
  | 86 => some a86
  | 87 => some a87
  | 88 => some a88
  | 89 => some a89
  | 90 => some a90
  | 91 => some a91
  | 92 => some a92
  | 93 => some a93
  | 94 => some a94
  | 95 => some a95
  | 96 => some a96
  | 97 => some a97
  | 98 => some a98
  | 99 => some a99
  | 100 => some a100
  | 101 => some a101
  | 102 => some a102
  | 103 => some a103
  | 104 => some a104
  | 105 => some a105
  | 106 => some a106
  | 107 => some a107
  | 108 => some a108
  | 109 => some a109
  | 110 => some a110
  | 111 => some a111
  | 112 => some a112
  | 113 => some a113
  | 114 => some a114
  | 115 => some a115
  | 116 => some a116
  | _ => none
theorem ft3 : ft 3 = some a3 := rfl
theorem ft4 : ft 4 = some a4 := rfl
theorem ft5 : ft 5 = some a5 := rfl
theorem ft6 : ft 6 = some a6 := rfl
theorem ft7 : ft 7 = some a7 := rfl
theorem ft8 : ft 8 = some a8 := rfl
theorem ft9 : ft 9 = some a9 := rfl
theorem ft10 : ft 10 = some a10 := rfl
theorem ft11 : ft 11 = some a11 := rfl
theorem ft12 : ft 12 = some a12 := rfl
theorem ft13 : ft 13 = some a13 := rfl
theorem ft14 : ft 14 = some a14 := rfl
theorem ft15 : ft 15 = some a15 := rfl
theorem ft16 : ft 16 = some a16 := rfl
theorem ft17 : ft 17 = some a17 := rfl
theorem ft18 : ft 18 = some a18 := rfl
theorem ft19 : ft 19 = some a19 := rfl
theorem ft20 : ft 20 = some a20 := rfl
theorem ft21 : ft 21 = some a21 := rfl
theorem ft22 : ft 22 = some a22 := rfl
theorem ft23 : ft 23 = some a23 := rfl
theorem ft24 : ft 24 = some a24 := rfl
theorem ft25 : ft 25 = some a25 := rfl
theorem ft26 : ft 26 = some a26 := rfl
theorem ft27 : ft 27 = some a27 := rfl
theorem ft28 : ft 28 = some a28 := rfl
theorem ft29 : ft 29 = some a29 := rfl
theorem ft30 : ft 30 = some a30 := rfl
theorem ft31 : ft 31 = some a31 := rfl
theorem ft32 : ft 32 = some a32 := rfl
theorem ft33 : ft 33 = some a33 := rfl
theorem ft34 : ft 34 = some a34 := rfl
theorem ft35 : ft 35 = some a35 := rfl
theorem ft36 : ft 36 = some a36 := rfl
theorem ft37 : ft 37 = some a37 := rfl
theorem ft38 : ft 38 = some a38 := rfl
theorem ft39 : ft 39 = some a39 := rfl
theorem ft40 : ft 40 = some a40 := rfl
theorem ft41 : ft 41 = some a41 := rfl
theorem ft42 : ft 42 = some a42 := rfl
theorem ft43 : ft 43 = some a43 := rfl
theorem ft44 : ft 44 = some a44 := rfl
theorem ft45 : ft 45 = some a45 := rfl
theorem ft46 : ft 46 = some a46 := rfl
theorem ft47 : ft 47 = some a47 := rfl
theorem ft48 : ft 48 = some a48 := rfl
theorem ft49 : ft 49 = some a49 := rfl
theorem ft50 : ft 50 = some a50 := rfl
theorem ft51 : ft 51 = some a51 := rfl
theorem ft52 : ft 52 = some a52 := rfl
theorem ft53 : ft 53 = some a53 := rfl
theorem ft54 : ft 54 = some a54 := rfl
theorem ft55 : ft 55 = some a55 := rfl
theorem ft56 : ft 56 = some a56 := rfl
theorem ft57 : ft 57 = some a57 := rfl
theorem ft58 : ft 58 = some a58 := rfl
theorem ft59 : ft 59 = some a59 := rfl
theorem ft60 : ft 60 = some a60 := rfl
theorem ft61 : ft 61 = some a61 := rfl
theorem ft62 : ft 62 = some a62 := rfl
theorem ft63 : ft 63 = some a63 := rfl
theorem ft64 : ft 64 = some a64 := rfl
theorem ft65 : ft 65 = some a65 := rfl
theorem ft66 : ft 66 = some a66 := rfl
theorem ft67 : ft 67 = some a67 := rfl
theorem ft68 : ft 68 = some a68 := rfl
theorem ft69 : ft 69 = some a69 := rfl
theorem ft70 : ft 70 = some a70 := rfl
theorem ft71 : ft 71 = some a71 := rfl
theorem ft72 : ft 72 = some a72 := rfl
theorem ft73 : ft 73 = some a73 := rfl
theorem ft74 : ft 74 = some a74 := rfl
theorem ft75 : ft 75 = some a75 := rfl
theorem ft76 : ft 76 = some a76 := rfl
theorem ft77 : ft 77 = some a77 := rfl
theorem ft78 : ft 78 = some a78 := rfl
theorem ft79 : ft 79 = some a79 := rfl
theorem ft80 : ft 80 = some a80 := rfl
theorem ft81 : ft 81 = some a81 := rfl
theorem ft82 : ft 82 = some a82 := rfl
theorem ft83 : ft 83 = some a83 := rfl
theorem ft84 : ft 84 = some a84 := rfl
theorem ft85 : ft 85 = some a85 := rfl
theorem ft86 : ft 86 = some a86 := rfl
theorem ft87 : ft 87 = some a87 := rfl
theorem ft88 : ft 88 = some a88 := rfl
theorem ft89 : ft 89 = some a89 := rfl
theorem ft90 : ft 90 = some a90 := rfl
theorem ft91 : ft 91 = some a91 := rfl
theorem ft92 : ft 92 = some a92 := rfl
theorem ft93 : ft 93 = some a93 := rfl
theorem ft94 : ft 94 = some a94 := rfl
theorem ft95 : ft 95 = some a95 := rfl
theorem ft96 : ft 96 = some a96 := rfl
theorem ft97 : ft 97 = some a97 := rfl
theorem ft98 : ft 98 = some a98 := rfl
theorem ft99 : ft 99 = some a99 := rfl
theorem ft100 : ft 100 = some a100 := rfl
theorem ft101 : ft 101 = some a101 := rfl
theorem ft102 : ft 102 = some a102 := rfl
theorem ft103 : ft 103 = some a103 := rfl
theorem ft104 : ft 104 = some a104 := rfl
theorem ft105 : ft 105 = some a105 := rfl
theorem ft106 : ft 106 = some a106 := rfl
theorem ft107 : ft 107 = some a107 := rfl
theorem ft108 : ft 108 = some a108 := rfl
theorem ft109 : ft 109 = some a109 := rfl
theorem ft110 : ft 110 = some a110 := rfl
theorem ft111 : ft 111 = some a111 := rfl
theorem ft112 : ft 112 = some a112 := rfl
theorem ft113 : ft 113 = some a113 := rfl
theorem ft114 : ft 114 = some a114 := rfl
theorem ft115 : ft 115 = some a115 := rfl
theorem ft116 : ft 116 = some a116 := rfl
end Go.Ab.T
end

section
namespace Go.Ab.T
theorem WB3 (s : St) (as : List AV) (K : AV → St → Prop) : WB ft 3 as s K = WV ft 3 (as.map (snap s.mem dep)) fun v => (as.all (fun a => !hot dep a) || plain dep v) = true ∧ K v s := WB_v ft3 rfl as s K
theorem WB4 (s : St) (as : List AV) (K : AV → St → Prop) : WB ft 4 as s K = WV ft 4 (as.map (snap s.mem dep)) fun v => (as.all (fun a => !hot dep a) || plain dep v) = true ∧ K v s := WB_v ft4 rfl as s K
theorem WB5 (s : St) (as : List AV) (K : AV → St → Prop) : WB ft 5 as s K = WV ft 5 (as.map (snap s.mem dep)) fun v => (as.all (fun a => !hot dep a) || plain dep v) = true ∧ K v s := WB_v ft5 rfl as s K
theorem WB6 (s : St) (as : List AV) (K : AV → St → Prop) : WB ft 6 as s K = WV ft 6 (as.map (snap s.mem dep)) fun v => (as.all (fun a => !hot dep a) || plain dep v) = true ∧ K v s := WB_v ft6 rfl as s K
theorem WB7 (s : St) (as : List AV) (K : AV → St → Prop) : WB ft 7 as s K = WV ft 7 (as.map (snap s.mem dep)) fun v => (as.all (fun a => !hot dep a) || plain dep v) = true ∧ K v s := WB_v ft7 rfl as s K
theorem WB8 (s : St) (as : List AV) (K : AV → St → Prop) : WB ft 8 as s K = WV ft 8 (as.map (snap s.mem dep)) fun v => (as.all (fun a => !hot dep a) || plain dep v) = true ∧ K v s := WB_v ft8 rfl as s K
theorem WB9 (s : St) (as : List AV) (K : AV → St → Prop) : WB ft 9 as s K = WV ft 9 (as.map (snap s.mem dep)) fun v => (as.all (fun a => !hot dep a) || plain dep v) = true ∧ K v s := WB_v ft9 rfl as s K
theorem WB10 (s : St) (as : List AV) (K : AV → St → Prop) : WB ft 10 as s K = WV ft 10 (as.map (snap s.mem dep)) fun v => (as.all (fun a => !hot dep a) || plain dep v) = true ∧ K v s := WB_v ft10 rfl as s K
theorem WB11 (s : St) (as : List AV) (K : AV → St → Prop) : WB ft 11 as s K = WV ft 11 (as.map (snap s.mem dep)) fun v => (as.all (fun a => !hot dep a) || plain dep v) = true ∧ K v s := WB_v ft11 rfl as s K
theorem WB12 (s : St) (as : List AV) (K : AV → St → Prop) : WB ft 12 as s K = WV ft 12 (as.map (snap s.mem dep)) fun v => (as.all (fun a => !hot dep a) || plain dep v) = true ∧ K v s := WB_v ft12 rfl as s K
theorem WB13 (s : St) (as : List AV) (K : AV → St → Prop) : WB ft 13 as s K = WR ft (.f 13) (as.map (snap s.mem dep)) .nil fun v m => (as.all (fun a => !hot dep a) || (ownly dep v && m.blks.all Blk.ownly)) = true ∧
      K (shift s.mem.blks.length s.mem.toks.length dep v) (s.setMem (joinMem s.mem m dep)) := WB_o ft13 rfl as s K
theorem WB14 (s : St) (as : List AV) (K : AV → St → Prop) : WB ft 14 as s K = WV ft 14 (as.map (snap s.mem dep)) fun v => (as.all (fun a => !hot dep a) || plain dep v) = true ∧ K v s := WB_v ft14 rfl as s K
theorem WB15 (s : St) (as : List AV) (K : AV → St → Prop) : WB ft 15 as s K = WV ft 15 (as.map (snap s.mem dep)) fun v => (as.all (fun a => !hot dep a) || plain dep v) = true ∧ K v s := WB_v ft15 rfl as s K
theorem WB16 (s : St) (as : List AV) (K : AV → St → Prop) : WB ft 16 as s K = WV ft 16 (as.map (snap s.mem dep)) fun v => (as.all (fun a => !hot dep a) || plain dep v) = true ∧ K v s := WB_v ft16 rfl as s K
theorem WB17 (s : St) (as : List AV) (K : AV → St → Prop) : WB ft 17 as s K = WV ft 17 (as.map (snap s.mem dep)) fun v => (as.all (fun a => !hot dep a) || plain dep v) = true ∧ K v s := WB_v ft17 rfl as s K
theorem WB18 (s : St) (as : List AV) (K : AV → St → Prop) : WB ft 18 as s K = WV ft 18 (as.map (snap s.mem dep)) fun v => (as.all (fun a => !hot dep a) || plain dep v) = true ∧ K v s := WB_v ft18 rfl as s K
theorem WB19 (s : St) (as : List AV) (K : AV → St → Prop) : WB ft 19 as s K = WV ft 19 (as.map (snap s.mem dep)) fun v => (as.all (fun a => !hot dep a) || plain dep v) = true ∧ K v s := WB_v ft19 rfl as s K
theorem WB20 (s : St) (as : List AV) (K : AV → St → Prop) : WB ft 20 as s K = WV ft 20 (as.map (snap s.mem dep)) fun v => (as.all (fun a => !hot dep a) || plain dep v) = true ∧ K v s := WB_v ft20 rfl as s K
theorem WB21 (s : St) (as : List AV) (K : AV → St → Prop) : WB ft 21 as s K = WV ft 21 (as.map (snap s.mem dep)) fun v => (as.all (fun a => !hot dep a) || plain dep v) = true ∧ K v s := WB_v ft21 rfl as s K
theorem WB22 (s : St) (as : List AV) (K : AV → St → Prop) : WB ft 22 as s K = WV ft 22 (as.map (snap s.mem dep)) fun v => (as.all (fun a => !hot dep a) || plain dep v) = true ∧ K v s := WB_v ft22 rfl as s K
theorem WB23 (s : St) (as : List AV) (K : AV → St → Prop) : WB ft 23 as s K = WV ft 23 (as.map (snap s.mem dep)) fun v => (as.all (fun a => !hot dep a) || plain dep v) = true ∧ K v s := WB_v ft23 rfl as s K
theorem WB24 (s : St) (as : List AV) (K : AV → St → Prop) : WB ft 24 as s K = WV ft 24 (as.map (snap s.mem dep)) fun v => (as.all (fun a => !hot dep a) || plain dep v) = true ∧ K v s := WB_v ft24 rfl as s K
theorem WB25 (s : St) (as : List AV) (K : AV → St → Prop) : WB ft 25 as s K = WV ft 25 (as.map (snap s.mem dep)) fun v => (as.all (fun a => !hot dep a) || plain dep v) = true ∧ K v s := WB_v ft25 rfl as s K
theorem WB26 (s : St) (as : List AV) (K : AV → St → Prop) : WB ft 26 as s K = WV ft 26 (as.map (snap s.mem dep)) fun v => (as.all (fun a => !hot dep a) || plain dep v) = true ∧ K v s := WB_v ft26 rfl as s K
theorem WB27 (s : St) (as : List AV) (K : AV → St → Prop) : WB ft 27 as s K = WV ft 27 (as.map (snap s.mem dep)) fun v => (as.all (fun a => !hot dep a) || plain dep v) = true ∧ K v s := WB_v ft27 rfl as s K
theorem WB28 (s : St) (as : List AV) (K : AV → St → Prop) : WB ft 28 as s K = WV ft 28 (as.map (snap s.mem dep)) fun v => (as.all (fun a => !hot dep a) || plain dep v) = true ∧ K v s := WB_v ft28 rfl as s K
theorem WB29 (s : St) (as : List AV) (K : AV → St → Prop) : WB ft 29 as s K = WV ft 29 (as.map (snap s.mem dep)) fun v => (as.all (fun a => !hot dep a) || plain dep v) = true ∧ K v s := WB_v ft29 rfl as s K
theorem WB30 (s : St) (as : List AV) (K : AV → St → Prop) : WB ft 30 as s K = WV ft 30 (as.map (snap s.mem dep)) fun v => (as.all (fun a => !hot dep a) || plain dep v) = true ∧ K v s := WB_v ft30 rfl as s K
theorem WB31 (s : St) (as : List AV) (K : AV → St → Prop) : WB ft 31 as s K = WR ft (.f 31) (as.map (snap s.mem dep)) .nil fun v m => (as.all (fun a => !hot dep a) || (ownly dep v && m.blks.all Blk.ownly)) = true ∧
      K (shift s.mem.blks.length s.mem.toks.length dep v) (s.setMem (joinMem s.mem m dep)) := WB_o ft31 rfl as s K
theorem WB32 (s : St) (as : List AV) (K : AV → St → Prop) : WB ft 32 as s K = WV ft 32 (as.map (snap s.mem dep)) fun v => (as.all (fun a => !hot dep a) || plain dep v) = true ∧ K v s := WB_v ft32 rfl as s K
theorem WB33 (s : St) (as : List AV) (K : AV → St → Prop) : WB ft 33 as s K = WV ft 33 (as.map (snap s.mem dep)) fun v => (as.all (fun a => !hot dep a) || plain dep v) = true ∧ K v s := WB_v ft33 rfl as s K
theorem WB34 (s : St) (as : List AV) (K : AV → St → Prop) : WB ft 34 as s K = WV ft 34 (as.map (snap s.mem dep)) fun v => (as.all (fun a => !hot dep a) || plain dep v) = true ∧ K v s := WB_v ft34 rfl as s K
theorem WB35 (s : St) (as : List AV) (K : AV → St → Prop) : WB ft 35 as s K = WV ft 35 (as.map (snap s.mem dep)) fun v => (as.all (fun a => !hot dep a) || plain dep v) = true ∧ K v s := WB_v ft35 rfl as s K
theorem WB36 (s : St) (as : List AV) (K : AV → St → Prop) : WB ft 36 as s K = WV ft 36 (as.map (snap s.mem dep)) fun v => (as.all (fun a => !hot dep a) || plain dep v) = true ∧ K v s := WB_v ft36 rfl as s K
theorem WB37 (s : St) (as : List AV) (K : AV → St → Prop) : WB ft 37 as s K = WV ft 37 (as.map (snap s.mem dep)) fun v => (as.all (fun a => !hot dep a) || plain dep v) = true ∧ K v s := WB_v ft37 rfl as s K
theorem WB38 (s : St) (as : List AV) (K : AV → St → Prop) : WB ft 38 as s K = WV ft 38 (as.map (snap s.mem dep)) fun v => (as.all (fun a => !hot dep a) || plain dep v) = true ∧ K v s := WB_v ft38 rfl as s K
theorem WB39 (s : St) (as : List AV) (K : AV → St → Prop) : WB ft 39 as s K = WV ft 39 (as.map (snap s.mem dep)) fun v => (as.all (fun a => !hot dep a) || plain dep v) = true ∧ K v s := WB_v ft39 rfl as s K
theorem WB40 (s : St) (as : List AV) (K : AV → St → Prop) : WB ft 40 as s K = WV ft 40 (as.map (snap s.mem dep)) fun v => (as.all (fun a => !hot dep a) || plain dep v) = true ∧ K v s := WB_v ft40 rfl as s K
theorem WB41 (s : St) (as : List AV) (K : AV → St → Prop) : WB ft 41 as s K = WV ft 41 (as.map (snap s.mem dep)) fun v => (as.all (fun a => !hot dep a) || plain dep v) = true ∧ K v s := WB_v ft41 rfl as s K
theorem WB42 (s : St) (as : List AV) (K : AV → St → Prop) : WB ft 42 as s K = WV ft 42 (as.map (snap s.mem dep)) fun v => (as.all (fun a => !hot dep a) || plain dep v) = true ∧ K v s := WB_v ft42 rfl as s K
theorem WB43 (s : St) (as : List AV) (K : AV → St → Prop) : WB ft 43 as s K = WV ft 43 (as.map (snap s.mem dep)) fun v => (as.all (fun a => !hot dep a) || plain dep v) = true ∧ K v s := WB_v ft43 rfl as s K
theorem WB44 (s : St) (as : List AV) (K : AV → St → Prop) : WB ft 44 as s K = WV ft 44 (as.map (snap s.mem dep)) fun v => (as.all (fun a => !hot dep a) || plain dep v) = true ∧ K v s := WB_v ft44 rfl as s K
theorem WB45 (s : St) (as : List AV) (K : AV → St → Prop) : WB ft 45 as s K = WV ft 45 (as.map (snap s.mem dep)) fun v => (as.all (fun a => !hot dep a) || plain dep v) = true ∧ K v s := WB_v ft45 rfl as s K
theorem WB46 (s : St) (as : List AV) (K : AV → St → Prop) : WB ft 46 as s K = WV ft 46 (as.map (snap s.mem dep)) fun v => (as.all (fun a => !hot dep a) || plain dep v) = true ∧ K v s := WB_v ft46 rfl as s K
theorem WB47 (s : St) (as : List AV) (K : AV → St → Prop) : WB ft 47 as s K = WV ft 47 (as.map (snap s.mem dep)) fun v => (as.all (fun a => !hot dep a) || plain dep v) = true ∧ K v s := WB_v ft47 rfl as s K
theorem WB48 (s : St) (as : List AV) (K : AV → St → Prop) : WB ft 48 as s K = WV ft 48 (as.map (snap s.mem dep)) fun v => (as.all (fun a => !hot dep a) || plain dep v) = true ∧ K v s := WB_v ft48 rfl as s K
theorem WB49 (s : St) (as : List AV) (K : AV → St → Prop) : WB ft 49 as s K = WV ft 49 (as.map (snap s.mem dep)) fun v => (as.all (fun a => !hot dep a) || plain dep v) = true ∧ K v s := WB_v ft49 rfl as s K
theorem WB50 (s : St) (as : List AV) (K : AV → St → Prop) : WB ft 50 as s K = WV ft 50 (as.map (snap s.mem dep)) fun v => (as.all (fun a => !hot dep a) || plain dep v) = true ∧ K v s := WB_v ft50 rfl as s K
theorem WB51 (s : St) (as : List AV) (K : AV → St → Prop) : WB ft 51 as s K = WR ft (.f 51) as s.mem fun v m => K v (s.setMem m) := WB_r ft51 rfl as s K
theorem WB52 (s : St) (as : List AV) (K : AV → St → Prop) : WB ft 52 as s K = WR ft (.f 52) as s.mem fun v m => K v (s.setMem m) := WB_r ft52 rfl as s K
theorem WB53 (s : St) (as : List AV) (K : AV → St → Prop) : WB ft 53 as s K = WV ft 53 (as.map (snap s.mem dep)) fun v => (as.all (fun a => !hot dep a) || plain dep v) = true ∧ K v s := WB_v ft53 rfl as s K
theorem WB54 (s : St) (as : List AV) (K : AV → St → Prop) : WB ft 54 as s K = WV ft 54 (as.map (snap s.mem dep)) fun v => (as.all (fun a => !hot dep a) || plain dep v) = true ∧ K v s := WB_v ft54 rfl as s K
theorem WB55 (s : St) (as : List AV) (K : AV → St → Prop) : WB ft 55 as s K = WV ft 55 (as.map (snap s.mem dep)) fun v => (as.all (fun a => !hot dep a) || plain dep v) = true ∧ K v s := WB_v ft55 rfl as s K
theorem WB56 (s : St) (as : List AV) (K : AV → St → Prop) : WB ft 56 as s K = WV ft 56 (as.map (snap s.mem dep)) fun v => (as.all (fun a => !hot dep a) || plain dep v) = true ∧ K v s := WB_v ft56 rfl as s K
theorem WB57 (s : St) (as : List AV) (K : AV → St → Prop) : WB ft 57 as s K = WV ft 57 (as.map (snap s.mem dep)) fun v => (as.all (fun a => !hot dep a) || plain dep v) = true ∧ K v s := WB_v ft57 rfl as s K
theorem WB58 (s : St) (as : List AV) (K : AV → St → Prop) : WB ft 58 as s K = WR ft (.f 58) as s.mem fun v m => K v (s.setMem m) := WB_r ft58 rfl as s K
theorem WB59 (s : St) (as : List AV) (K : AV → St → Prop) : WB ft 59 as s K = WV ft 59 (as.map (snap s.mem dep)) fun v => (as.all (fun a => !hot dep a) || plain dep v) = true ∧ K v s := WB_v ft59 rfl as s K
theorem WB60 (s : St) (as : List AV) (K : AV → St → Prop) : WB ft 60 as s K = WV ft 60 (as.map (snap s.mem dep)) fun v => (as.all (fun a => !hot dep a) || plain dep v) = true ∧ K v s := WB_v ft60 rfl as s K
theorem WB61 (s : St) (as : List AV) (K : AV → St → Prop) : WB ft 61 as s K = WV ft 61 (as.map (snap s.mem dep)) fun v => (as.all (fun a => !hot dep a) || plain dep v) = true ∧ K v s := WB_v ft61 rfl as s K
theorem WB62 (s : St) (as : List AV) (K : AV → St → Prop) : WB ft 62 as s K = WV ft 62 (as.map (snap s.mem dep)) fun v => (as.all (fun a => !hot dep a) || plain dep v) = true ∧ K v s := WB_v ft62 rfl as s K
theorem WB63 (s : St) (as : List AV) (K : AV → St → Prop) : WB ft 63 as s K = WV ft 63 (as.map (snap s.mem dep)) fun v => (as.all (fun a => !hot dep a) || plain dep v) = true ∧ K v s := WB_v ft63 rfl as s K
theorem WB64 (s : St) (as : List AV) (K : AV → St → Prop) : WB ft 64 as s K = WV ft 64 (as.map (snap s.mem dep)) fun v => (as.all (fun a => !hot dep a) || plain dep v) = true ∧ K v s := WB_v ft64 rfl as s K
theorem WB65 (s : St) (as : List AV) (K : AV → St → Prop) : WB ft 65 as s K = WV ft 65 (as.map (snap s.mem dep)) fun v => (as.all (fun a => !hot dep a) || plain dep v) = true ∧ K v s := WB_v ft65 rfl as s K
theorem WB66 (s : St) (as : List AV) (K : AV → St → Prop) : WB ft 66 as s K = WV ft 66 (as.map (snap s.mem dep)) fun v => (as.all (fun a => !hot dep a) || plain dep v) = true ∧ K v s := WB_v ft66 rfl as s K
theorem WB67 (s : St) (as : List AV) (K : AV → St → Prop) : WB ft 67 as s K = WV ft 67 (as.map (snap s.mem dep)) fun v => (as.all (fun a => !hot dep a) || plain dep v) = true ∧ K v s := WB_v ft67 rfl as s K
theorem WB68 (s : St) (as : List AV) (K : AV → St → Prop) : WB ft 68 as s K = WV ft 68 (as.map (snap s.mem dep)) fun v => (as.all (fun a => !hot dep a) || plain dep v) = true ∧ K v s := WB_v ft68 rfl as s K
theorem WB69 (s : St) (as : List AV) (K : AV → St → Prop) : WB ft 69 as s K = WV ft 69 (as.map (snap s.mem dep)) fun v => (as.all (fun a => !hot dep a) || plain dep v) = true ∧ K v s := WB_v ft69 rfl as s K
theorem WB70 (s : St) (as : List AV) (K : AV → St → Prop) : WB ft 70 as s K = WV ft 70 (as.map (snap s.mem dep)) fun v => (as.all (fun a => !hot dep a) || plain dep v) = true ∧ K v s := WB_v ft70 rfl as s K
theorem WB71 (s : St) (as : List AV) (K : AV → St → Prop) : WB ft 71 as s K = WV ft 71 (as.map (snap s.mem dep)) fun v => (as.all (fun a => !hot dep a) || plain dep v) = true ∧ K v s := WB_v ft71 rfl as s K
theorem WB72 (s : St) (as : List AV) (K : AV → St → Prop) : WB ft 72 as s K = WV ft 72 (as.map (snap s.mem dep)) fun v => (as.all (fun a => !hot dep a) || plain dep v) = true ∧ K v s := WB_v ft72 rfl as s K
theorem WB73 (s : St) (as : List AV) (K : AV → St → Prop) : WB ft 73 as s K = WV ft 73 (as.map (snap s.mem dep)) fun v => (as.all (fun a => !hot dep a) || plain dep v) = true ∧ K v s := WB_v ft73 rfl as s K
theorem WB74 (s : St) (as : List AV) (K : AV → St → Prop) : WB ft 74 as s K = WV ft 74 (as.map (snap s.mem dep)) fun v => (as.all (fun a => !hot dep a) || plain dep v) = true ∧ K v s := WB_v ft74 rfl as s K
theorem WB75 (s : St) (as : List AV) (K : AV → St → Prop) : WB ft 75 as s K = WV ft 75 (as.map (snap s.mem dep)) fun v => (as.all (fun a => !hot dep a) || plain dep v) = true ∧ K v s := WB_v ft75 rfl as s K
theorem WB76 (s : St) (as : List AV) (K : AV → St → Prop) : WB ft 76 as s K = WV ft 76 (as.map (snap s.mem dep)) fun v => (as.all (fun a => !hot dep a) || plain dep v) = true ∧ K v s := WB_v ft76 rfl as s K
theorem WB77 (s : St) (as : List AV) (K : AV → St → Prop) : WB ft 77 as s K = WR ft (.f 77) as s.mem fun v m => K v (s.setMem m) := WB_r ft77 rfl as s K
theorem WB78 (s : St) (as : List AV) (K : AV → St → Prop) : WB ft 78 as s K = WV ft 78 (as.map (snap s.mem dep)) fun v => (as.all (fun a => !hot dep a) || plain dep v) = true ∧ K v s := WB_v ft78 rfl as s K
theorem WB79 (s : St) (as : List AV) (K : AV → St → Prop) : WB ft 79 as s K = WV ft 79 (as.map (snap s.mem dep)) fun v => (as.all (fun a => !hot dep a) || plain dep v) = true ∧ K v s := WB_v ft79 rfl as s K
theorem WB80 (s : St) (as : List AV) (K : AV → St → Prop) : WB ft 80 as s K = WV ft 80 (as.map (snap s.mem dep)) fun v => (as.all (fun a => !hot dep a) || plain dep v) = true ∧ K v s := WB_v ft80 rfl as s K
theorem WB81 (s : St) (as : List AV) (K : AV → St → Prop) : WB ft 81 as s K = WV ft 81 (as.map (snap s.mem dep)) fun v => (as.all (fun a => !hot dep a) || plain dep v) = true ∧ K v s := WB_v ft81 rfl as s K
theorem WB82 (s : St) (as : List AV) (K : AV → St → Prop) : WB ft 82 as s K = WV ft 82 (as.map (snap s.mem dep)) fun v => (as.all (fun a => !hot dep a) || plain dep v) = true ∧ K v s := WB_v ft82 rfl as s K
theorem WB83 (s : St) (as : List AV) (K : AV → St → Prop) : WB ft 83 as s K = WR ft (.f 83) (as.map (snap s.mem dep)) .nil fun v m => (as.all (fun a => !hot dep a) || (ownly dep v && m.blks.all Blk.ownly)) = true ∧
      K (shift s.mem.blks.length s.mem.toks.length dep v) (s.setMem (joinMem s.mem m dep)) := WB_o ft83 rfl as s K
theorem WB84 (s : St) (as : List AV) (K : AV → St → Prop) : WB ft 84 as s K = WV ft 84 (as.map (snap s.mem dep)) fun v => (as.all (fun a => !hot dep a) || plain dep v) = true ∧ K v s := WB_v ft84 rfl as s K
theorem WB85 (s : St) (as : List AV) (K : AV → St → Prop) : WB ft 85 as s K = WV ft 85 (as.map (snap s.mem dep)) fun v => (as.all (fun a => !hot dep a) || plain dep v) = true ∧ K v s := WB_v ft85 rfl as s K
theorem WB86 (s : St) (as : List AV) (K : AV → St → Prop) : WB ft 86 as s K = WV ft 86 (as.map (snap s.mem dep)) fun v => (as.all (fun a => !hot dep a) || plain dep v) = true ∧ K v s := WB_v ft86 rfl as s K
theorem WB87 (s : St) (as : List AV) (K : AV → St → Prop) : WB ft 87 as s K = WV ft 87 (as.map (snap s.mem dep)) fun v => (as.all (fun a => !hot dep a) || plain dep v) = true ∧ K v s := WB_v ft87 rfl as s K
theorem WB88 (s : St) (as : List AV) (K : AV → St → Prop) : WB ft 88 as s K = WV ft 88 (as.map (snap s.mem dep)) fun v => (as.all (fun a => !hot dep a) || plain dep v) = true ∧ K v s := WB_v ft88 rfl as s K
theorem WB89 (s : St) (as : List AV) (K : AV → St → Prop) : WB ft 89 as s K = WV ft 89 (as.map (snap s.mem dep)) fun v => (as.all (fun a => !hot dep a) || plain dep v) = true ∧ K v s := WB_v ft89 rfl as s K
theorem WB90 (s : St) (as : List AV) (K : AV → St → Prop) : WB ft 90 as s K = WV ft 90 (as.map (snap s.mem dep)) fun v => (as.all (fun a => !hot dep a) || plain dep v) = true ∧ K v s := WB_v ft90 rfl as s K
theorem WB91 (s : St) (as : List AV) (K : AV → St → Prop) : WB ft 91 as s K = WV ft 91 (as.map (snap s.mem dep)) fun v => (as.all (fun a => !hot dep a) || plain dep v) = true ∧ K v s := WB_v ft91 rfl as s K
theorem WB92 (s : St) (as : List AV) (K : AV → St → Prop) : WB ft 92 as s K = WV ft 92 (as.map (snap s.mem dep)) fun v => (as.all (fun a => !hot dep a) || plain dep v) = true ∧ K v s := WB_v ft92 rfl as s K
theorem WB93 (s : St) (as : List AV) (K : AV → St → Prop) : WB ft 93 as s K = WV ft 93 (as.map (snap s.mem dep)) fun v => (as.all (fun a => !hot dep a) || plain dep v) = true ∧ K v s := WB_v ft93 rfl as s K
theorem WB94 (s : St) (as : List AV) (K : AV → St → Prop) : WB ft 94 as s K = WV ft 94 (as.map (snap s.mem dep)) fun v => (as.all (fun a => !hot dep a) || plain dep v) = true ∧ K v s := WB_v ft94 rfl as s K
theorem WB95 (s : St) (as : List AV) (K : AV → St → Prop) : WB ft 95 as s K = WV ft 95 (as.map (snap s.mem dep)) fun v => (as.all (fun a => !hot dep a) || plain dep v) = true ∧ K v s := WB_v ft95 rfl as s K
theorem WB96 (s : St) (as : List AV) (K : AV → St → Prop) : WB ft 96 as s K = WV ft 96 (as.map (snap s.mem dep)) fun v => (as.all (fun a => !hot dep a) || plain dep v) = true ∧ K v s := WB_v ft96 rfl as s K
theorem WB97 (s : St) (as : List AV) (K : AV → St → Prop) : WB ft 97 as s K = WR ft (.f 97) as s.mem fun v m => K v (s.setMem m) := WB_r ft97 rfl as s K
theorem WB98 (s : St) (as : List AV) (K : AV → St → Prop) : WB ft 98 as s K = WR ft (.f 98) as s.mem fun v m => K v (s.setMem m) := WB_r ft98 rfl as s K
theorem WB99 (s : St) (as : List AV) (K : AV → St → Prop) : WB ft 99 as s K = WV ft 99 (as.map (snap s.mem dep)) fun v => (as.all (fun a => !hot dep a) || plain dep v) = true ∧ K v s := WB_v ft99 rfl as s K
theorem WB100 (s : St) (as : List AV) (K : AV → St → Prop) : WB ft 100 as s K = WV ft 100 (as.map (snap s.mem dep)) fun v => (as.all (fun a => !hot dep a) || plain dep v) = true ∧ K v s := WB_v ft100 rfl as s K
theorem WB101 (s : St) (as : List AV) (K : AV → St → Prop) : WB ft 101 as s K = WV ft 101 (as.map (snap s.mem dep)) fun v => (as.all (fun a => !hot dep a) || plain dep v) = true ∧ K v s := WB_v ft101 rfl as s K
theorem WB102 (s : St) (as : List AV) (K : AV → St → Prop) : WB ft 102 as s K = WV ft 102 (as.map (snap s.mem dep)) fun v => (as.all (fun a => !hot dep a) || plain dep v) = true ∧ K v s := WB_v ft102 rfl as s K
theorem WB103 (s : St) (as : List AV) (K : AV → St → Prop) : WB ft 103 as s K = WV ft 103 (as.map (snap s.mem dep)) fun v => (as.all (fun a => !hot dep a) || plain dep v) = true ∧ K v s := WB_v ft103 rfl as s K
theorem WB104 (s : St) (as : List AV) (K : AV → St → Prop) : WB ft 104 as s K = WV ft 104 (as.map (snap s.mem dep)) fun v => (as.all (fun a => !hot dep a) || plain dep v) = true ∧ K v s := WB_v ft104 rfl as s K
theorem WB105 (s : St) (as : List AV) (K : AV → St → Prop) : WB ft 105 as s K = WV ft 105 (as.map (snap s.mem dep)) fun v => (as.all (fun a => !hot dep a) || plain dep v) = true ∧ K v s := WB_v ft105 rfl as s K
theorem WB106 (s : St) (as : List AV) (K : AV → St → Prop) : WB ft 106 as s K = WV ft 106 (as.map (snap s.mem dep)) fun v => (as.all (fun a => !hot dep a) || plain dep v) = true ∧ K v s := WB_v ft106 rfl as s K
theorem WB107 (s : St) (as : List AV) (K : AV → St → Prop) : WB ft 107 as s K = WV ft 107 (as.map (snap s.mem dep)) fun v => (as.all (fun a => !hot dep a) || plain dep v) = true ∧ K v s := WB_v ft107 rfl as s K
theorem WB108 (s : St) (as : List AV) (K : AV → St → Prop) : WB ft 108 as s K = WV ft 108 (as.map (snap s.mem dep)) fun v => (as.all (fun a => !hot dep a) || plain dep v) = true ∧ K v s := WB_v ft108 rfl as s K
theorem WB109 (s : St) (as : List AV) (K : AV → St → Prop) : WB ft 109 as s K = WV ft 109 (as.map (snap s.mem dep)) fun v => (as.all (fun a => !hot dep a) || plain dep v) = true ∧ K v s := WB_v ft109 rfl as s K
theorem WB110 (s : St) (as : List AV) (K : AV → St → Prop) : WB ft 110 as s K = WV ft 110 (as.map (snap s.mem dep)) fun v => (as.all (fun a => !hot dep a) || plain dep v) = true ∧ K v s := WB_v ft110 rfl as s K
theorem WB111 (s : St) (as : List AV) (K : AV → St → Prop) : WB ft 111 as s K = WV ft 111 (as.map (snap s.mem dep)) fun v => (as.all (fun a => !hot dep a) || plain dep v) = true ∧ K v s := WB_v ft111 rfl as s K
theorem WB112 (s : St) (as : List AV) (K : AV → St → Prop) : WB ft 112 as s K = WV ft 112 (as.map (snap s.mem dep)) fun v => (as.all (fun a => !hot dep a) || plain dep v) = true ∧ K v s := WB_v ft112 rfl as s K
theorem WB113 (s : St) (as : List AV) (K : AV → St → Prop) : WB ft 113 as s K = WV ft 113 (as.map (snap s.mem dep)) fun v => (as.all (fun a => !hot dep a) || plain dep v) = true ∧ K v s := WB_v ft113 rfl as s K
theorem WB114 (s : St) (as : List AV) (K : AV → St → Prop) : WB ft 114 as s K = WV ft 114 (as.map (snap s.mem dep)) fun v => (as.all (fun a => !hot dep a) || plain dep v) = true ∧ K v s := WB_v ft114 rfl as s K
theorem WB115 (s : St) (as : List AV) (K : AV → St → Prop) : WB ft 115 as s K = WV ft 115 (as.map (snap s.mem dep)) fun v => (as.all (fun a => !hot dep a) || plain dep v) = true ∧ K v s := WB_v ft115 rfl as s K
theorem WB116 (s : St) (as : List AV) (K : AV → St → Prop) : WB ft 116 as s K = WV ft 116 (as.map (snap s.mem dep)) fun v => (as.all (fun a => !hot dep a) || plain dep v) = true ∧ K v s := WB_v ft116 rfl as s K
theorem WF13 (s : St) (as : List AV) (K : AV → St → Prop) : WF ft 13 as s K = WV ft 13 (as.map (snap s.mem dep)) fun v => (as.all (fun a => !hot dep a) || plain dep v) = true ∧ K v s := WF_v ft13 as s K
end Go.Ab.T
end
