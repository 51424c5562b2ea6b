/-
  A part of the proofs over this seat.
  (The texts KrT KrW, one behind the other.)
-/
import Derived.Test.YtnkdfekbifcglaaA0
set_option linter.unusedSimpArgs false
set_option linter.unusedVariables false
set_option linter.unusedSectionVars false
section
namespace Go.Ab.T
def c2 : ACode := .region [Ob 0 (.call 1 [])]
def r2 : List Res := []
def a2 : AFn := ⟨0, c2, r2,.v⟩

def c3 : ACode := .seq (.region [Ob 3 (.box (.t 0) 2),Ob 6 (.mov (.c (.bool false)))])
 (.seq (.seq (.region [Ob 14 (.load (.t 3) (some 2)),Ob 15 (.call 11 [(.t 14)]),Ob 16 (.mov (.t 15)),Og 17 16 false (.mov (.t 2)),Og 18 16 false (.len (.t 17)),Og 19 16 false (.bin .gtr (.t 18) (Ci 40)),Ob 20 (.pick (.t 16) (.c (.bool true)) (.t 19))])
 (.cond (.t 20) (.seq (.region [Ob 21 (.call 12 []),Ob 6 (.mov (.t 21))])
 (.ret))
 (.skip)))
 (.seq (.region [Ob 22 (.load (.t 3) (some 2)),Ob 23 (.callf 13 [(.t 22)]),Ob 24 (.lit false 35 3 []),Ob 25 (.mov (.t 2)),Ob 26 (.app false (.t 24) (.t 25) 35 3 24),Ob 7 (.new (.agg [(.sl [] .tight), (.sl [] .tight)]) 2),On (.store (.t 7) (.t 23) 2),Ob 8 (.mov (.t 26))])
 (.seq (.seq (.region [Ob 27 (.load (.t 7) (some 2)),Ob 28 (.call 14 [(.t 27)]),Ob 29 (.load (.t 3) (some 2)),Ob 30 (.call 15 [(.t 29)]),Ob 31 (.bin .neq (.t 28) (.t 30))])
 (.cond (.t 31) (.seq (.region [Ob 6 (.mov (.c (.bool false)))])
 (.ret))
 (.skip)))
 (.seq (.region [Ob 33 (.load (.t 7) (some 2)),Ob 34 (.mov (.t 1)),Ob 35 (.mov (.t 8)),Ob 36 (.call 16 [(.t 33), (.t 34), (.t 35)]),Ob 32 (.mov (.t 36)),Ob 37 (.ext (.t 32) 0),Ob 38 (.ext (.t 32) 1),Ob 9 (.mov (.t 37)),Ob 10 (.mov (.t 38))])
 (.seq (.region [Ob 40 (.load (.t 3) (some 2)),Ob 41 (.mov (.t 1)),Ob 42 (.mov (.t 2)),Ob 43 (.call 17 [(.t 40), (.t 41), (.t 42)]),Ob 39 (.mov (.t 43)),Ob 44 (.ext (.t 39) 0),Ob 45 (.ext (.t 39) 1),Ob 11 (.mov (.t 44)),Ob 12 (.mov (.t 45))])
 (.seq (.seq (.region [Ob 13 (.mov (Ci 0))])
 (.block 0 (.loop (.seq (.seq (.region [Ob 46 (.mov (.t 13)),Ob 47 (.mov (.t 2)),Ob 48 (.len (.t 47)),Ob 49 (.bin .lss (.t 46) (.t 48))])
 (.cond (.t 49) (.skip)
 (.exit 0)))
 (.seq (.block 1 (.seq (.region [Ob 52 (.mov (.t 8)),Ob 53 (.mov (.t 13)),Ob 54 (.idx (.t 52) (.t 53) 3),Ob 55 (.load (.t 54) (some 3)),Ob 56 (.mov (.t 2)),Ob 57 (.mov (.t 13)),Ob 58 (.idx (.t 56) (.t 57) 3),Ob 59 (.load (.t 58) (some 3)),Ob 60 (.eqv true true [.i,.i,.i] (.t 55) (.t 59))])
 (.cond (.t 60) (.seq (.region [Ob 6 (.mov (.c (.bool false)))])
 (.ret))
 (.skip))))
 (.region [Ob 50 (.mov (.t 13)),Ob 51 (.bin .add (.t 50) (Ci 1)),Ob 13 (.mov (.t 51))]))))))
 (.seq (.region [Ob 61 (.mov (.t 9)),Ob 62 (.mov (.t 11)),Ob 63 (.bin .eql (.t 61) (.t 62)),Ob 64 (.mov (.t 63)),Og 65 64 true (.mov (.t 10)),Og 66 64 true (.mov (.t 12)),Og 67 64 true (.bin .eql (.t 65) (.t 66)),Ob 68 (.pick (.t 64) (.t 67) (.c (.bool false))),Ob 69 (.mov (.t 68)),Og 70 69 true (.addr (.t 7) 0),Og 71 69 true (.load (.t 70) none),Og 72 69 true (.addr (.t 3) 0),Og 73 69 true (.load (.t 72) none),Og 74 69 true (.call 18 [(.t 71), (.t 73)]),Ob 75 (.pick (.t 69) (.t 74) (.c (.bool false))),Ob 76 (.mov (.t 75)),Og 77 76 true (.call 12 []),Ob 78 (.pick (.t 76) (.t 77) (.c (.bool false))),Ob 6 (.mov (.t 78))])
 (.ret))))))))
def r3 : List Res := [.t 6]
def a3 : AFn := ⟨3, c3, r3,.v⟩

def c4 : ACode := .seq (.region [Ob 2 (.box (.t 0) 2),Ob 4 (.mov (.c (.bool false)))])
 (.seq (.seq (.region [Ob 14 (.load (.t 2) (some 2)),Ob 15 (.call 19 [(.t 14)]),Ob 16 (.mov (.t 15)),Og 17 16 false (.mov (.t 1)),Og 18 16 false (.call 20 [(.t 17)]),Ob 19 (.pick (.t 16) (.c (.bool true)) (.t 18))])
 (.cond (.t 19) (.seq (.region [Ob 20 (.call 12 []),Ob 4 (.mov (.t 20))])
 (.ret))
 (.skip)))
 (.seq (.region [Ob 21 (.load (.t 2) (some 2)),Ob 22 (.callf 13 [(.t 21)]),Ob 5 (.new (.agg [(.sl [] .tight), (.sl [] .tight)]) 2),On (.store (.t 5) (.t 22) 2)])
 (.seq (.region [Ob 24 (.load (.t 5) (some 2)),Ob 25 (.mov (.t 1)),Ob 26 (.call 21 [(.t 24), (.t 25)]),Ob 23 (.mov (.t 26)),Ob 27 (.ext (.t 23) 0),Ob 28 (.ext (.t 23) 1),Ob 6 (.mov (.t 27)),Ob 7 (.mov (.t 28))])
 (.seq (.region [Ob 30 (.load (.t 2) (some 2)),Ob 31 (.mov (.t 1)),Ob 32 (.call 22 [(.t 30), (.t 31)]),Ob 29 (.mov (.t 32)),Ob 33 (.ext (.t 29) 0),Ob 34 (.ext (.t 29) 1),Ob 8 (.mov (.t 33)),Ob 9 (.mov (.t 34))])
 (.seq (.region [Ob 36 (.load (.t 5) (some 2)),Ob 37 (.mov (.t 1)),Ob 38 (.call 23 [(.t 36), (.t 37)]),Ob 35 (.mov (.t 38)),Ob 39 (.ext (.t 35) 0),Ob 40 (.ext (.t 35) 1),Ob 10 (.mov (.t 39)),Ob 11 (.mov (.t 40))])
 (.seq (.region [Ob 42 (.load (.t 5) (some 2)),Ob 43 (.mov (.t 1)),Ob 44 (.call 24 [(.t 42), (.t 43)]),Ob 41 (.mov (.t 44)),Ob 45 (.ext (.t 41) 0),Ob 46 (.ext (.t 41) 1),Ob 12 (.mov (.t 45)),Ob 13 (.mov (.t 46))])
 (.seq (.seq (.region [Ob 47 (.mov (.t 6)),Ob 48 (.mov (.t 8)),Ob 49 (.bin .neq (.t 47) (.t 48)),Ob 50 (.mov (.t 49)),Og 51 50 false (.mov (.t 7)),Og 52 50 false (.mov (.t 9)),Og 53 50 false (.bin .neq (.t 51) (.t 52)),Ob 54 (.pick (.t 50) (.c (.bool true)) (.t 53)),Ob 55 (.mov (.t 54)),Og 56 55 false (.mov (.t 11)),Og 57 55 false (.mov (.t 9)),Og 58 55 false (.bin .neq (.t 56) (.t 57)),Ob 59 (.pick (.t 55) (.c (.bool true)) (.t 58)),Ob 60 (.mov (.t 59)),Og 61 60 false (.mov (.t 13)),Og 62 60 false (.mov (.t 9)),Og 63 60 false (.bin .neq (.t 61) (.t 62)),Ob 64 (.pick (.t 60) (.c (.bool true)) (.t 63)),Ob 65 (.mov (.t 64)),Og 66 65 false (.mov (.t 10)),Og 67 65 false (.len (.t 66)),Og 68 65 false (.bin .gtr (.t 67) (Ci 2000)),Ob 69 (.pick (.t 65) (.c (.bool true)) (.t 68)),Ob 70 (.mov (.t 69)),Og 71 70 false (.mov (.t 12)),Og 72 70 false (.len (.t 71)),Og 73 70 false (.bin .gtr (.t 72) (Ci 40)),Ob 74 (.pick (.t 70) (.c (.bool true)) (.t 73))])
 (.cond (.t 74) (.seq (.region [Ob 4 (.mov (.c (.bool false)))])
 (.ret))
 (.skip)))
 (.seq (.seq (.region [Ob 75 (.mov (.t 9)),Ob 76 (.bin .neq (.t 75) (Ci 0))])
 (.cond (.t 76) (.seq (.region [Ob 77 (.mov (.t 10)),Ob 78 (.len (.t 77)),Ob 79 (.bin .eql (.t 78) (Ci 0)),Ob 80 (.mov (.t 79)),Og 81 80 true (.mov (.t 12)),Og 82 80 true (.len (.t 81)),Og 83 80 true (.bin .eql (.t 82) (Ci 0)),Ob 84 (.pick (.t 80) (.t 83) (.c (.bool false))),Ob 85 (.mov (.t 84)),Og 86 85 true (.call 12 []),Ob 87 (.pick (.t 85) (.t 86) (.c (.bool false))),Ob 4 (.mov (.t 87))])
 (.ret))
 (.skip)))
 (.seq (.region [Ob 88 (.load (.t 2) (some 2)),Ob 89 (.mov (.t 1)),Ob 90 (.mov (.t 10)),Ob 91 (.call 25 [(.t 88), (.t 89), (.t 90)]),Ob 92 (.mov (.t 91)),Og 93 92 true (.load (.t 2) (some 2)),Og 94 92 true (.mov (.t 10)),Og 95 92 true (.call 26 [(.t 93), (.t 94)]),Og 96 92 true (.mov (.t 8)),Og 97 92 true (.bin .eql (.t 95) (.t 96)),Ob 98 (.pick (.t 92) (.t 97) (.c (.bool false))),Ob 99 (.mov (.t 98)),Og 100 99 true (.load (.t 2) (some 2)),Og 101 99 true (.mov (.t 1)),Og 102 99 true (.mov (.t 12)),Og 103 99 true (.call 27 [(.t 100), (.t 101), (.t 102)]),Ob 104 (.pick (.t 99) (.t 103) (.c (.bool false))),Ob 105 (.mov (.t 104)),Og 106 105 true (.load (.t 2) (some 2)),Og 107 105 true (.mov (.t 1)),Og 108 105 true (.mov (.t 12)),Og 109 105 true (.call 28 [(.t 106), (.t 107), (.t 108)]),Og 110 105 true (.mov (.t 8)),Og 111 105 true (.bin .eql (.t 109) (.t 110)),Ob 112 (.pick (.t 105) (.t 111) (.c (.bool false))),Ob 113 (.mov (.t 112)),Og 114 113 true (.call 12 []),Ob 115 (.pick (.t 113) (.t 114) (.c (.bool false))),Ob 4 (.mov (.t 115))])
 (.ret))))))))))
def r4 : List Res := [.t 4]
def a4 : AFn := ⟨2, c4, r4,.v⟩

def c5 : ACode := .seq (.region [Ob 3 (.box (.t 0) 2),Ob 6 (.mov (.c (.bool false)))])
 (.seq (.seq (.region [Ob 21 (.load (.t 3) (some 2)),Ob 22 (.call 19 [(.t 21)]),Ob 23 (.mov (.t 22)),Og 24 23 false (.mov (.t 2)),Og 25 23 false (.call 20 [(.t 24)]),Ob 26 (.pick (.t 23) (.c (.bool true)) (.t 25))])
 (.cond (.t 26) (.seq (.region [Ob 27 (.call 12 []),Ob 6 (.mov (.t 27))])
 (.ret))
 (.skip)))
 (.seq (.region [Ob 28 (.load (.t 3) (some 2)),Ob 29 (.callf 13 [(.t 28)]),Ob 7 (.new (.agg [(.sl [] .tight), (.sl [] .tight)]) 2),On (.store (.t 7) (.t 29) 2)])
 (.seq (.region [Ob 31 (.load (.t 7) (some 2)),Ob 32 (.call 29 [(.t 31)]),Ob 30 (.mov (.t 32)),Ob 33 (.ext (.t 30) 0),Ob 34 (.ext (.t 30) 1),Ob 8 (.mov (.t 33)),Ob 9 (.mov (.t 34))])
 (.seq (.region [Ob 36 (.load (.t 3) (some 2)),Ob 37 (.call 30 [(.t 36)]),Ob 35 (.mov (.t 37)),Ob 38 (.ext (.t 35) 0),Ob 39 (.ext (.t 35) 1),Ob 10 (.mov (.t 38)),Ob 11 (.mov (.t 39))])
 (.seq (.region [Ob 41 (.load (.t 7) (some 2)),Ob 42 (.mov (.t 1)),Ob 43 (.call 31 [(.t 41), (.t 42)]),Ob 40 (.mov (.t 43)),Ob 44 (.ext (.t 40) 0),Ob 45 (.ext (.t 40) 1),Ob 12 (.new (.agg [(.sl [] .tight), (.sl [] .tight)]) 2),On (.store (.t 12) (.t 44) 2),Ob 13 (.mov (.t 45))])
 (.seq (.region [Ob 47 (.load (.t 3) (some 2)),Ob 48 (.mov (.t 1)),Ob 49 (.call 32 [(.t 47), (.t 48)]),Ob 46 (.mov (.t 49)),Ob 50 (.ext (.t 46) 0),Ob 51 (.ext (.t 46) 1),Ob 14 (.new (.agg [(.sl [] .tight), (.sl [] .tight)]) 2),On (.store (.t 14) (.t 50) 2),Ob 15 (.mov (.t 51))])
 (.seq (.region [Ob 53 (.load (.t 7) (some 2)),Ob 54 (.mov (.t 2)),Ob 55 (.call 33 [(.t 53), (.t 54)]),Ob 52 (.mov (.t 55)),Ob 56 (.ext (.t 52) 0),Ob 57 (.ext (.t 52) 1),Ob 16 (.mov (.t 56)),Ob 17 (.mov (.t 57))])
 (.seq (.region [Ob 59 (.load (.t 3) (some 2)),Ob 60 (.mov (.t 2)),Ob 61 (.call 34 [(.t 59), (.t 60)]),Ob 58 (.mov (.t 61)),Ob 62 (.ext (.t 58) 0),Ob 63 (.ext (.t 58) 1),Ob 18 (.mov (.t 62)),Ob 19 (.mov (.t 63))])
 (.seq (.seq (.region [Ob 64 (.mov (.t 8)),Ob 65 (.mov (.t 10)),Ob 66 (.bin .neq (.t 64) (.t 65)),Ob 67 (.mov (.t 66)),Og 68 67 false (.mov (.t 9)),Og 69 67 false (.mov (.t 11)),Og 70 67 false (.bin .neq (.t 68) (.t 69)),Ob 71 (.pick (.t 67) (.c (.bool true)) (.t 70)),Ob 72 (.mov (.t 71)),Og 73 72 false (.mov (.t 13)),Og 74 72 false (.mov (.t 15)),Og 75 72 false (.bin .neq (.t 73) (.t 74)),Ob 76 (.pick (.t 72) (.c (.bool true)) (.t 75)),Ob 77 (.mov (.t 76)),Og 78 77 false (.mov (.t 16)),Og 79 77 false (.mov (.t 18)),Og 80 77 false (.call 18 [(.t 78), (.t 79)]),Og 81 77 false (.not (.t 80)),Ob 82 (.pick (.t 77) (.c (.bool true)) (.t 81)),Ob 83 (.mov (.t 82)),Og 84 83 false (.mov (.t 17)),Og 85 83 false (.mov (.t 19)),Og 86 83 false (.bin .neq (.t 84) (.t 85)),Ob 87 (.pick (.t 83) (.c (.bool true)) (.t 86)),Ob 88 (.mov (.t 87)),Og 89 88 false (.addr (.t 12) 0),Og 90 88 false (.load (.t 89) none),Og 91 88 false (.addr (.t 14) 0),Og 92 88 false (.load (.t 91) none),Og 93 88 false (.call 18 [(.t 90), (.t 92)]),Og 94 88 false (.not (.t 93)),Ob 95 (.pick (.t 88) (.c (.bool true)) (.t 94)),Ob 96 (.mov (.t 95)),Og 97 96 false (.addr (.t 12) 1),Og 98 96 false (.load (.t 97) none),Og 99 96 false (.len (.t 98)),Og 100 96 false (.addr (.t 14) 1),Og 101 96 false (.load (.t 100) none),Og 102 96 false (.len (.t 101)),Og 103 96 false (.bin .neq (.t 99) (.t 102)),Ob 104 (.pick (.t 96) (.c (.bool true)) (.t 103))])
 (.cond (.t 104) (.seq (.region [Ob 6 (.mov (.c (.bool false)))])
 (.ret))
 (.skip)))
 (.seq (.seq (.region [Ob 20 (.mov (Ci 0))])
 (.block 0 (.loop (.seq (.seq (.region [Ob 105 (.mov (.t 20)),Ob 106 (.addr (.t 14) 1),Ob 107 (.load (.t 106) none),Ob 108 (.len (.t 107)),Ob 109 (.bin .lss (.t 105) (.t 108))])
 (.cond (.t 109) (.skip)
 (.exit 0)))
 (.seq (.block 1 (.seq (.region [Ob 112 (.addr (.t 12) 1),Ob 113 (.load (.t 112) none),Ob 114 (.mov (.t 20)),Ob 115 (.idx (.t 113) (.t 114) 4),Ob 116 (.load (.t 115) (some 4)),Ob 117 (.addr (.t 14) 1),Ob 118 (.load (.t 117) none),Ob 119 (.mov (.t 20)),Ob 120 (.idx (.t 118) (.t 119) 4),Ob 121 (.load (.t 120) (some 4)),Ob 122 (.eqv true true [.i,.i,.i,.i] (.t 116) (.t 121))])
 (.cond (.t 122) (.seq (.region [Ob 6 (.mov (.c (.bool false)))])
 (.ret))
 (.skip))))
 (.region [Ob 110 (.mov (.t 20)),Ob 111 (.bin .add (.t 110) (Ci 1)),Ob 20 (.mov (.t 111))]))))))
 (.seq (.region [Ob 123 (.call 12 []),Ob 6 (.mov (.t 123))])
 (.ret))))))))))))
def r5 : List Res := [.t 6]
def a5 : AFn := ⟨3, c5, r5,.v⟩

def c6 : ACode := .seq (.region [Ob 3 (.box (.t 0) 2),Ob 5 (.box (.t 2) 2),Ob 6 (.mov (.c (.bool false)))])
 (.seq (.seq (.region [Ob 15 (.load (.t 3) (some 2)),Ob 16 (.mov (.t 1)),Ob 17 (.call 35 [(.t 15), (.t 16)]),Ob 18 (.not (.t 17)),Ob 19 (.mov (.t 18)),Og 20 19 false (.addr (.t 5) 0),Og 21 19 false (.load (.t 20) none),Og 22 19 false (.len (.t 21)),Og 23 19 false (.bin .gtr (.t 22) (Ci 60)),Ob 24 (.pick (.t 19) (.c (.bool true)) (.t 23)),Ob 25 (.mov (.t 24)),Og 26 25 false (.addr (.t 5) 1),Og 27 25 false (.load (.t 26) none),Og 28 25 false (.len (.t 27)),Og 29 25 false (.bin .gtr (.t 28) (Ci 40)),Ob 30 (.pick (.t 25) (.c (.bool true)) (.t 29))])
 (.cond (.t 30) (.seq (.region [Ob 31 (.call 12 []),Ob 6 (.mov (.t 31))])
 (.ret))
 (.skip)))
 (.seq (.region [Ob 33 (.load (.t 3) (some 2)),Ob 34 (.mov (.t 1)),Ob 35 (.call 21 [(.t 33), (.t 34)]),Ob 32 (.mov (.t 35)),Ob 36 (.ext (.t 32) 0),Ob 37 (.ext (.t 32) 1),Ob 7 (.mov (.t 36)),Ob 8 (.mov (.t 37))])
 (.seq (.region [Ob 39 (.load (.t 3) (some 2)),Ob 40 (.mov (.t 1)),Ob 41 (.call 23 [(.t 39), (.t 40)]),Ob 38 (.mov (.t 41)),Ob 42 (.ext (.t 38) 0),Ob 43 (.ext (.t 38) 1),Ob 9 (.mov (.t 42)),Ob 10 (.mov (.t 43))])
 (.seq (.region [Ob 45 (.load (.t 3) (some 2)),Ob 46 (.mov (.t 1)),Ob 47 (.call 24 [(.t 45), (.t 46)]),Ob 44 (.mov (.t 47)),Ob 48 (.ext (.t 44) 0),Ob 49 (.ext (.t 44) 1),Ob 11 (.mov (.t 48)),Ob 12 (.mov (.t 49))])
 (.seq (.seq (.region [Ob 50 (.mov (.t 8)),Ob 51 (.bin .neq (.t 50) (Ci 0)),Ob 52 (.mov (.t 51)),Og 53 52 false (.mov (.t 10)),Og 54 52 false (.bin .neq (.t 53) (Ci 0)),Ob 55 (.pick (.t 52) (.c (.bool true)) (.t 54)),Ob 56 (.mov (.t 55)),Og 57 56 false (.mov (.t 12)),Og 58 56 false (.bin .neq (.t 57) (Ci 0)),Ob 59 (.pick (.t 56) (.c (.bool true)) (.t 58)),Ob 60 (.mov (.t 59)),Og 61 60 false (.mov (.t 9)),Og 62 60 false (.len (.t 61)),Og 63 60 false (.bin .gtr (.t 62) (Ci 2000)),Ob 64 (.pick (.t 60) (.c (.bool true)) (.t 63)),Ob 65 (.mov (.t 64)),Og 66 65 false (.load (.t 3) (some 2)),Og 67 65 false (.mov (.t 1)),Og 68 65 false (.mov (.t 9)),Og 69 65 false (.call 25 [(.t 66), (.t 67), (.t 68)]),Og 70 65 false (.not (.t 69)),Ob 71 (.pick (.t 65) (.c (.bool true)) (.t 70)),Ob 72 (.mov (.t 71)),Og 73 72 false (.load (.t 3) (some 2)),Og 74 72 false (.mov (.t 1)),Og 75 72 false (.mov (.t 11)),Og 76 72 false (.call 27 [(.t 73), (.t 74), (.t 75)]),Og 77 72 false (.not (.t 76)),Ob 78 (.pick (.t 72) (.c (.bool true)) (.t 77))])
 (.cond (.t 78) (.seq (.region [Ob 6 (.mov (.c (.bool false)))])
 (.ret))
 (.skip)))
 (.seq (.seq (.region [Ob 79 (.load (.t 3) (some 2)),Ob 80 (.mov (.t 9)),Ob 81 (.call 26 [(.t 79), (.t 80)]),Ob 82 (.mov (.t 7)),Ob 83 (.bin .neq (.t 81) (.t 82)),Ob 84 (.mov (.t 83)),Og 85 84 false (.load (.t 3) (some 2)),Og 86 84 false (.mov (.t 1)),Og 87 84 false (.mov (.t 11)),Og 88 84 false (.call 28 [(.t 85), (.t 86), (.t 87)]),Og 89 84 false (.mov (.t 7)),Og 90 84 false (.bin .neq (.t 88) (.t 89)),Ob 91 (.pick (.t 84) (.c (.bool true)) (.t 90))])
 (.cond (.t 91) (.seq (.region [Ob 6 (.mov (.c (.bool false)))])
 (.ret))
 (.skip)))
 (.seq (.seq (.region [Ob 92 (.load (.t 3) (some 2)),Ob 93 (.mov (.t 1)),Ob 94 (.addr (.t 5) 1),Ob 95 (.load (.t 94) none),Ob 96 (.call 27 [(.t 92), (.t 93), (.t 95)]),Ob 97 (.mov (.t 96)),Og 98 97 true (.load (.t 3) (some 2)),Og 99 97 true (.mov (.t 1)),Og 100 97 true (.addr (.t 5) 1),Og 101 97 true (.load (.t 100) none),Og 102 97 true (.call 28 [(.t 98), (.t 99), (.t 101)]),Og 103 97 true (.mov (.t 7)),Og 104 97 true (.bin .lss (.t 102) (.t 103)),Ob 105 (.pick (.t 97) (.t 104) (.c (.bool false)))])
 (.cond (.t 105) (.seq (.region [Ob 6 (.mov (.c (.bool false)))])
 (.ret))
 (.skip)))
 (.seq (.seq (.region [Ob 106 (.load (.t 3) (some 2)),Ob 107 (.mov (.t 1)),Ob 108 (.addr (.t 5) 0),Ob 109 (.load (.t 108) none),Ob 110 (.call 25 [(.t 106), (.t 107), (.t 109)]),Ob 111 (.not (.t 110))])
 (.cond (.t 111) (.seq (.region [Ob 112 (.call 12 []),Ob 6 (.mov (.t 112))])
 (.ret))
 (.skip)))
 (.seq (.region [Ob 114 (.load (.t 3) (some 2)),Ob 115 (.mov (.t 1)),Ob 116 (.addr (.t 5) 0),Ob 117 (.load (.t 116) none),Ob 118 (.call 16 [(.t 114), (.t 115), (.t 117)]),Ob 113 (.mov (.t 118)),Ob 119 (.ext (.t 113) 0),Ob 120 (.ext (.t 113) 1),Ob 13 (.mov (.t 119)),Ob 14 (.mov (.t 120))])
 (.seq (.region [Ob 121 (.mov (.t 14)),Ob 122 (.bin .eql (.t 121) (Ci 0)),Ob 123 (.mov (.t 122)),Og 124 123 true (.mov (.t 13)),Og 125 123 true (.mov (.t 7)),Og 126 123 true (.bin .leq (.t 124) (.t 125)),Ob 127 (.pick (.t 123) (.t 126) (.c (.bool false))),Ob 128 (.mov (.t 127)),Og 129 128 true (.call 12 []),Ob 130 (.pick (.t 128) (.t 129) (.c (.bool false))),Ob 6 (.mov (.t 130))])
 (.ret)))))))))))
def r6 : List Res := [.t 6]
def a6 : AFn := ⟨3, c6, r6,.v⟩

def c7 : ACode := .seq (.region [Ob 1 (.box (.t 0) 2),Ob 2 (.mov (.c (.bool false)))])
 (.seq (.seq (.region [Ob 11 (.load (.t 1) (some 2)),Ob 12 (.call 35 [(.t 11), (Ci 0)]),Ob 13 (.not (.t 12))])
 (.cond (.t 13) (.seq (.region [Ob 14 (.call 12 []),Ob 2 (.mov (.t 14))])
 (.ret))
 (.skip)))
 (.seq (.region [Ob 16 (.load (.t 1) (some 2)),Ob 17 (.call 29 [(.t 16)]),Ob 15 (.mov (.t 17)),Ob 18 (.ext (.t 15) 0),Ob 19 (.ext (.t 15) 1),Ob 3 (.mov (.t 18)),Ob 4 (.mov (.t 19))])
 (.seq (.seq (.region [Ob 20 (.mov (.t 4)),Ob 21 (.bin .neq (.t 20) (Ci 0))])
 (.cond (.t 21) (.seq (.region [Ob 23 (.load (.t 1) (some 2)),Ob 24 (.call 21 [(.t 23), (Ci 10)]),Ob 22 (.mov (.t 24)),Ob 25 (.ext (.t 22) 0),Ob 26 (.ext (.t 22) 1),Ob 5 (.mov (.t 25)),Ob 6 (.mov (.t 26))])
 (.seq (.region [Ob 27 (.mov (.t 4)),Ob 28 (.bin .eql (.t 27) (Ci 3)),Ob 29 (.mov (.t 28)),Og 30 29 true (.mov (.t 6)),Og 31 29 true (.bin .eql (.t 30) (Ci 0)),Ob 32 (.pick (.t 29) (.t 31) (.c (.bool false))),Ob 33 (.mov (.t 32)),Og 34 33 true (.mov (.t 5)),Og 35 33 true (.load (.t 1) (some 2)),Og 36 33 true (.call 36 [(.t 35)]),Og 37 33 true (.bin .lss (.t 34) (.t 36)),Ob 38 (.pick (.t 33) (.t 37) (.c (.bool false))),Ob 39 (.mov (.t 38)),Og 40 39 true (.call 12 []),Ob 41 (.pick (.t 39) (.t 40) (.c (.bool false))),Ob 2 (.mov (.t 41))])
 (.ret)))
 (.skip)))
 (.seq (.seq (.region [Ob 42 (.mov (.t 3)),Ob 43 (.bin .lss (.t 42) (Ci 0)),Ob 44 (.mov (.t 43)),Og 45 44 false (.mov (.t 3)),Og 46 44 false (.bin .gtr (.t 45) (Ci 60)),Ob 47 (.pick (.t 44) (.c (.bool true)) (.t 46))])
 (.cond (.t 47) (.seq (.region [Ob 2 (.mov (.c (.bool false)))])
 (.ret))
 (.skip)))
 (.seq (.region [Ob 49 (.load (.t 1) (some 2)),Ob 50 (.mov (.t 3)),Ob 51 (.call 21 [(.t 49), (.t 50)]),Ob 48 (.mov (.t 51)),Ob 52 (.ext (.t 48) 0),Ob 53 (.ext (.t 48) 1),Ob 7 (.mov (.t 52)),Ob 8 (.mov (.t 53))])
 (.seq (.seq (.region [Ob 54 (.mov (.t 8)),Ob 55 (.bin .neq (.t 54) (Ci 0)),Ob 56 (.mov (.t 55)),Og 57 56 false (.mov (.t 7)),Og 58 56 false (.load (.t 1) (some 2)),Og 59 56 false (.call 36 [(.t 58)]),Og 60 56 false (.bin .neq (.t 57) (.t 59)),Ob 61 (.pick (.t 56) (.c (.bool true)) (.t 60))])
 (.cond (.t 61) (.seq (.region [Ob 2 (.mov (.c (.bool false)))])
 (.ret))
 (.skip)))
 (.seq (.seq (.region [Ob 62 (.mov (.t 3)),Ob 63 (.bin .eql (.t 62) (Ci 0))])
 (.cond (.t 63) (.seq (.region [Ob 64 (.load (.t 1) (some 2)),Ob 65 (.call 36 [(.t 64)]),Ob 66 (.bin .eql (.t 65) (Ci 0)),Ob 67 (.mov (.t 66)),Og 68 67 true (.call 12 []),Ob 69 (.pick (.t 67) (.t 68) (.c (.bool false))),Ob 2 (.mov (.t 69))])
 (.ret))
 (.skip)))
 (.seq (.region [Ob 71 (.load (.t 1) (some 2)),Ob 72 (.mov (.t 3)),Ob 73 (.bin .sub (.t 72) (Ci 1)),Ob 74 (.call 21 [(.t 71), (.t 73)]),Ob 70 (.mov (.t 74)),Ob 75 (.ext (.t 70) 0),Ob 76 (.ext (.t 70) 1),Ob 9 (.mov (.t 75)),Ob 10 (.mov (.t 76))])
 (.seq (.region [Ob 77 (.mov (.t 10)),Ob 78 (.bin .eql (.t 77) (Ci 0)),Ob 79 (.mov (.t 78)),Og 80 79 true (.mov (.t 9)),Og 81 79 true (.mov (.t 7)),Og 82 79 true (.bin .lss (.t 80) (.t 81)),Ob 83 (.pick (.t 79) (.t 82) (.c (.bool false))),Ob 84 (.mov (.t 83)),Og 85 84 true (.call 12 []),Ob 86 (.pick (.t 84) (.t 85) (.c (.bool false))),Ob 2 (.mov (.t 86))])
 (.ret))))))))))
def r7 : List Res := [.t 2]
def a7 : AFn := ⟨1, c7, r7,.v⟩

def c8 : ACode := .seq (.region [Ob 3 (.box (.t 0) 2),Ob 5 (.box (.t 2) 9),Ob 6 (.mov (.c (.bool false)))])
 (.seq (.seq (.region [Ob 22 (.load (.t 3) (some 2)),Ob 23 (.mov (.t 1)),Ob 24 (.call 35 [(.t 22), (.t 23)]),Ob 25 (.not (.t 24)),Ob 26 (.mov (.t 25)),Og 27 26 false (.addr (.t 5) 0),Og 28 26 false (.load (.t 27) none),Og 29 26 false (.bin .lss (.t 28) (Ci 0)),Ob 30 (.pick (.t 26) (.c (.bool true)) (.t 29)),Ob 31 (.mov (.t 30)),Og 32 31 false (.addr (.t 5) 0),Og 33 31 false (.load (.t 32) none),Og 34 31 false (.bin .gtr (.t 33) (Ci 10)),Ob 35 (.pick (.t 31) (.c (.bool true)) (.t 34)),Ob 36 (.mov (.t 35)),Og 37 36 false (.addr (.t 5) 2),Og 38 36 false (.load (.t 37) none),Og 39 36 false (.bin .lss (.t 38) (Ci 0)),Ob 40 (.pick (.t 36) (.c (.bool true)) (.t 39)),Ob 41 (.mov (.t 40)),Og 42 41 false (.addr (.t 5) 2),Og 43 41 false (.load (.t 42) none),Og 44 41 false (.bin .gtr (.t 43) (Ci 20)),Ob 45 (.pick (.t 41) (.c (.bool true)) (.t 44)),Ob 46 (.mov (.t 45)),Og 47 46 false (.addr (.t 5) 3),Og 48 46 false (.load (.t 47) none),Og 49 46 false (.bin .lss (.t 48) (Ci 0)),Ob 50 (.pick (.t 46) (.c (.bool true)) (.t 49)),Ob 51 (.mov (.t 50)),Og 52 51 false (.addr (.t 5) 3),Og 53 51 false (.load (.t 52) none),Og 54 51 false (.bin .gtr (.t 53) (Ci 9)),Ob 55 (.pick (.t 51) (.c (.bool true)) (.t 54))])
 (.cond (.t 55) (.seq (.region [Ob 56 (.call 12 []),Ob 6 (.mov (.t 56))])
 (.ret))
 (.skip)))
 (.seq (.region [Ob 58 (.load (.t 3) (some 2)),Ob 59 (.mov (.t 1)),Ob 60 (.call 21 [(.t 58), (.t 59)]),Ob 57 (.mov (.t 60)),Ob 61 (.ext (.t 57) 0),Ob 62 (.ext (.t 57) 1),Ob 7 (.mov (.t 61)),Ob 8 (.mov (.t 62))])
 (.seq (.seq (.region [Ob 63 (.mov (.t 8)),Ob 64 (.bin .neq (.t 63) (Ci 0))])
 (.cond (.t 64) (.seq (.region [Ob 6 (.mov (.c (.bool false)))])
 (.ret))
 (.skip)))
 (.seq (.seq (.region [Ob 66 (.load (.t 3) (some 2)),Ob 67 (.mov (.t 1)),Ob 68 (.addr (.t 5) 0),Ob 69 (.load (.t 68) none),Ob 70 (.bin .add (.t 67) (.t 69)),Ob 71 (.mnx false (Ci 10) (.t 70)),Ob 72 (.call 21 [(.t 66), (.t 71)]),Ob 65 (.mov (.t 72)),Ob 73 (.ext (.t 65) 0),Ob 74 (.ext (.t 65) 1),Ob 9 (.mov (.t 73)),Ob 10 (.mov (.t 74))])
 (.seq (.region [Ob 75 (.mov (.t 10)),Ob 76 (.bin .neq (.t 75) (Ci 0)),Ob 77 (.mov (.t 76)),Og 78 77 false (.mov (.t 9)),Og 79 77 false (.mov (.t 7)),Og 80 77 false (.bin .lss (.t 78) (.t 79)),Ob 81 (.pick (.t 77) (.c (.bool true)) (.t 80))])
 (.cond (.t 81) (.seq (.region [Ob 6 (.mov (.c (.bool false)))])
 (.ret))
 (.skip))))
 (.seq (.region [Ob 82 (.load (.t 3) (some 2)),Ob 83 (.call 13 [(.t 82)]),Ob 11 (.new (.agg [(.sl [] .tight), (.sl [] .tight)]) 2),On (.store (.t 11) (.t 83) 2)])
 (.seq (.seq (.region [Ob 84 (.addr (.t 5) 1),Ob 85 (.load (.t 84) none),Ob 86 (.bin .geq (.t 85) (Ci 0)),Ob 87 (.mov (.t 86)),Og 88 87 true (.addr (.t 5) 1),Og 89 87 true (.load (.t 88) none),Og 90 87 true (.addr (.t 11) 1),Og 91 87 true (.load (.t 90) none),Og 92 87 true (.len (.t 91)),Og 93 87 true (.bin .lss (.t 89) (.t 92)),Ob 94 (.pick (.t 87) (.t 93) (.c (.bool false)))])
 (.cond (.t 94) (.seq (.region [Ob 95 (.addr (.t 11) 1),Ob 96 (.load (.t 95) none),Ob 97 (.addr (.t 5) 1),Ob 98 (.load (.t 97) none),Ob 99 (.idx (.t 96) (.t 98) 4),Ob 100 (.load (.t 99) (some 4)),Ob 12 (.new (.agg [(.int .i64 0), (.int .i64 0), (.int .i64 0), (.int .i64 0)]) 4),On (.store (.t 12) (.t 100) 4)])
 (.seq (.regionD [Ob 101 (.addr (.t 12) 2),Ob 102 (.load (.t 101) none),Ob 103 (.addr (.t 5) 2),Ob 104 (.load (.t 103) none),Ob 105 (.bin .add (.t 102) (.t 104)),Ob 106 (.mnx false (Ci 20) (.t 105)),Ob 107 (.addr (.t 12) 3),Ob 108 (.load (.t 107) none),Ob 109 (.addr (.t 5) 3),Ob 110 (.load (.t 109) none),Ob 111 (.bin .sub (.t 108) (.t 110)),Ob 112 (.mnx true (Ci 1) (.t 111)),Ob 113 (.addr (.t 12) 2),On (.store (.t 113) (.t 106) 1),Ob 114 (.addr (.t 12) 3),On (.store (.t 114) (.t 112) 1)] [(109, 113)])
 (.region [Ob 115 (.addr (.t 11) 1),Ob 116 (.load (.t 115) none),Ob 117 (.addr (.t 5) 1),Ob 118 (.load (.t 117) none),Ob 119 (.load (.t 12) (some 4)),Ob 120 (.idx (.t 116) (.t 118) 4),On (.store (.t 120) (.t 119) 4)])))
 (.skip)))
 (.seq (.seq (.region [Ob 121 (.addr (.t 11) 1),Ob 122 (.load (.t 121) none),Ob 123 (.len (.t 122)),Ob 124 (.bin .lss (.t 123) (Ci 5))])
 (.cond (.t 124) (.region [Ob 125 (.addr (.t 11) 1),Ob 126 (.load (.t 125) none),Ob 127 (.addr (.t 5) 5),Ob 128 (.load (.t 127) (some 4)),Ob 129 (.lit false 52 4 [(.t 128)]),Ob 130 (.app false (.t 126) (.t 129) 52 4 32),Ob 131 (.addr (.t 11) 1),On (.store (.t 131) (.t 130) 1)])
 (.skip)))
 (.seq (.seq (.region [Ob 132 (.load (.t 11) (some 2)),Ob 133 (.mov (.t 1)),Ob 134 (.call 35 [(.t 132), (.t 133)])])
 (.cond (.t 134) (.seq (.region [Ob 136 (.load (.t 11) (some 2)),Ob 137 (.mov (.t 1)),Ob 138 (.call 21 [(.t 136), (.t 137)]),Ob 135 (.mov (.t 138)),Ob 139 (.ext (.t 135) 0),Ob 140 (.ext (.t 135) 1),Ob 13 (.mov (.t 139)),Ob 14 (.mov (.t 140))])
 (.seq (.region [Ob 142 (.load (.t 3) (some 2)),Ob 143 (.call 29 [(.t 142)]),Ob 141 (.mov (.t 143)),Ob 144 (.ext (.t 141) 0),Ob 145 (.ext (.t 141) 1),Ob 15 (.mov (.t 144)),Ob 16 (.mov (.t 145))])
 (.seq (.region [Ob 147 (.load (.t 11) (some 2)),Ob 148 (.call 29 [(.t 147)]),Ob 146 (.mov (.t 148)),Ob 149 (.ext (.t 146) 0),Ob 150 (.ext (.t 146) 1),Ob 17 (.mov (.t 149)),Ob 18 (.mov (.t 150))])
 (.seq (.region [Ob 151 (.mov (.t 14)),Ob 152 (.bin .neq (.t 151) (Ci 0)),Ob 153 (.mov (.t 152)),Og 154 153 false (.mov (.t 13)),Og 155 153 false (.mov (.t 7)),Og 156 153 false (.bin .lss (.t 154) (.t 155)),Ob 157 (.pick (.t 153) (.c (.bool true)) (.t 156)),Ob 158 (.mov (.t 157)),Og 159 158 false (.mov (.t 16)),Og 160 158 false (.bin .eql (.t 159) (Ci 0)),Og 161 158 false (.mov (.t 160)),Og 162 161 true (.mov (.t 18)),Og 163 161 true (.bin .neq (.t 162) (Ci 0)),Og 164 161 true (.mov (.t 163)),Og 165 164 false (.mov (.t 17)),Og 166 164 false (.mov (.t 15)),Og 167 164 false (.bin .gtr (.t 165) (.t 166)),Og 168 161 true (.pick (.t 164) (.c (.bool true)) (.t 167)),Og 169 158 false (.pick (.t 161) (.t 168) (.c (.bool false))),Ob 170 (.pick (.t 158) (.c (.bool true)) (.t 169))])
 (.cond (.t 170) (.seq (.region [Ob 6 (.mov (.c (.bool false)))])
 (.ret))
 (.skip))))))
 (.skip)))
 (.seq (.seq (.region [Ob 171 (.addr (.t 5) 4),Ob 172 (.load (.t 171) none),Ob 173 (.bin .lss (.t 172) (Ci 0)),Ob 174 (.mov (.t 173)),Og 175 174 false (.addr (.t 5) 4),Og 176 174 false (.load (.t 175) none),Og 177 174 false (.addr (.t 3) 0),Og 178 174 false (.load (.t 177) none),Og 179 174 false (.len (.t 178)),Og 180 174 false (.bin .geq (.t 176) (.t 179)),Ob 181 (.pick (.t 174) (.c (.bool true)) (.t 180))])
 (.cond (.t 181) (.seq (.region [Ob 182 (.call 12 []),Ob 6 (.mov (.t 182))])
 (.ret))
 (.skip)))
 (.seq (.region [Ob 183 (.load (.t 3) (some 2)),Ob 184 (.call 13 [(.t 183)]),Ob 19 (.new (.agg [(.sl [] .tight), (.sl [] .tight)]) 2),On (.store (.t 19) (.t 184) 2)])
 (.seq (.region [Ob 185 (.addr (.t 19) 0),Ob 186 (.load (.t 185) none),Ob 187 (.addr (.t 5) 4),Ob 188 (.load (.t 187) none),Ob 189 (.idx (.t 186) (.t 188) 1),Ob 190 (.load (.t 189) none),Ob 191 (.bin .add (.t 190) (Ci 1)),Ob 192 (.idx (.t 186) (.t 188) 1),On (.store (.t 192) (.t 191) 1)])
 (.seq (.seq (.region [Ob 193 (.load (.t 19) (some 2)),Ob 194 (.mov (.t 1)),Ob 195 (.call 35 [(.t 193), (.t 194)]),Ob 196 (.not (.t 195))])
 (.cond (.t 196) (.seq (.region [Ob 197 (.call 12 []),Ob 6 (.mov (.t 197))])
 (.ret))
 (.skip)))
 (.seq (.region [Ob 199 (.load (.t 19) (some 2)),Ob 200 (.mov (.t 1)),Ob 201 (.call 21 [(.t 199), (.t 200)]),Ob 198 (.mov (.t 201)),Ob 202 (.ext (.t 198) 0),Ob 203 (.ext (.t 198) 1),Ob 20 (.mov (.t 202)),Ob 21 (.mov (.t 203))])
 (.seq (.region [Ob 204 (.mov (.t 21)),Ob 205 (.bin .eql (.t 204) (Ci 0)),Ob 206 (.mov (.t 205)),Og 207 206 true (.mov (.t 20)),Og 208 206 true (.mov (.t 7)),Og 209 206 true (.bin .eql (.t 207) (.t 208)),Og 210 206 true (.mov (.t 209)),Og 211 210 false (.mov (.t 20)),Og 212 210 false (.mov (.t 7)),Og 213 210 false (.bin .add (.t 212) (Ci 1)),Og 214 210 false (.bin .eql (.t 211) (.t 213)),Og 215 206 true (.pick (.t 210) (.c (.bool true)) (.t 214)),Ob 216 (.pick (.t 206) (.t 215) (.c (.bool false))),Ob 217 (.mov (.t 216)),Og 218 217 true (.call 12 []),Ob 219 (.pick (.t 217) (.t 218) (.c (.bool false))),Ob 6 (.mov (.t 219))])
 (.ret)))))))))))))))
def r8 : List Res := [.t 6]
def a8 : AFn := ⟨3, c8, r8,.v⟩

def c9 : ACode := .seq (.region [Ob 3 (.box (.t 0) 2),Ob 6 (.mov (.c (.bool false)))])
 (.seq (.seq (.region [Ob 17 (.load (.t 3) (some 2)),Ob 18 (.mov (.t 2)),Ob 19 (.call 35 [(.t 17), (.t 18)]),Ob 20 (.not (.t 19)),Ob 21 (.mov (.t 20)),Og 22 21 false (.mov (.t 1)),Og 23 21 false (.bin .lss (.t 22) (Ci 0)),Ob 24 (.pick (.t 21) (.c (.bool true)) (.t 23)),Ob 25 (.mov (.t 24)),Og 26 25 false (.mov (.t 1)),Og 27 25 false (.addr (.t 3) 1),Og 28 25 false (.load (.t 27) none),Og 29 25 false (.len (.t 28)),Og 30 25 false (.bin .geq (.t 26) (.t 29)),Ob 31 (.pick (.t 25) (.c (.bool true)) (.t 30))])
 (.cond (.t 31) (.seq (.region [Ob 32 (.call 12 []),Ob 6 (.mov (.t 32))])
 (.ret))
 (.skip)))
 (.seq (.region [Ob 34 (.load (.t 3) (some 2)),Ob 35 (.mov (.t 1)),Ob 36 (.call 31 [(.t 34), (.t 35)]),Ob 33 (.mov (.t 36)),Ob 37 (.ext (.t 33) 0),Ob 38 (.ext (.t 33) 1),Ob 7 (.new (.agg [(.sl [] .tight), (.sl [] .tight)]) 2),On (.store (.t 7) (.t 37) 2),Ob 8 (.mov (.t 38))])
 (.seq (.region [Ob 40 (.load (.t 3) (some 2)),Ob 41 (.mov (.t 2)),Ob 42 (.call 33 [(.t 40), (.t 41)]),Ob 39 (.mov (.t 42)),Ob 43 (.ext (.t 39) 0),Ob 44 (.ext (.t 39) 1),Ob 9 (.mov (.t 43)),Ob 10 (.mov (.t 44))])
 (.seq (.seq (.region [Ob 45 (.mov (.t 8)),Ob 46 (.bin .neq (.t 45) (Ci 0)),Ob 47 (.mov (.t 46)),Og 48 47 false (.mov (.t 10)),Og 49 47 false (.bin .neq (.t 48) (Ci 0)),Ob 50 (.pick (.t 47) (.c (.bool true)) (.t 49)),Ob 51 (.mov (.t 50)),Og 52 51 false (.load (.t 7) (some 2)),Og 53 51 false (.call 15 [(.t 52)]),Og 54 51 false (.bin .neq (.t 53) (Ci 0)),Ob 55 (.pick (.t 51) (.c (.bool true)) (.t 54)),Ob 56 (.mov (.t 55)),Og 57 56 false (.addr (.t 7) 1),Og 58 56 false (.load (.t 57) none),Og 59 56 false (.len (.t 58)),Og 60 56 false (.addr (.t 3) 1),Og 61 56 false (.load (.t 60) none),Og 62 56 false (.len (.t 61)),Og 63 56 false (.bin .neq (.t 59) (.t 62)),Ob 64 (.pick (.t 56) (.c (.bool true)) (.t 63)),Ob 65 (.mov (.t 64)),Og 66 65 false (.addr (.t 7) 1),Og 67 65 false (.load (.t 66) none),Og 68 65 false (.mov (.t 1)),Og 69 65 false (.idx (.t 67) (.t 68) 4),Og 70 65 false (.addr (.t 69) 2),Og 71 65 false (.load (.t 70) none),Og 72 65 false (.bin .neq (.t 71) (Ci 0)),Ob 73 (.pick (.t 65) (.c (.bool true)) (.t 72)),Ob 74 (.mov (.t 73)),Og 75 74 false (.mov (.t 9)),Og 76 74 false (.len (.t 75)),Og 77 74 false (.addr (.t 3) 1),Og 78 74 false (.load (.t 77) none),Og 79 74 false (.len (.t 78)),Og 80 74 false (.bin .gtr (.t 76) (.t 79)),Ob 81 (.pick (.t 74) (.c (.bool true)) (.t 80))])
 (.cond (.t 81) (.seq (.region [Ob 6 (.mov (.c (.bool false)))])
 (.ret))
 (.skip)))
 (.seq (.region [Ob 83 (.load (.t 3) (some 2)),Ob 84 (.mov (.t 2)),Ob 85 (.call 21 [(.t 83), (.t 84)]),Ob 82 (.mov (.t 85)),Ob 86 (.ext (.t 82) 0),Ob 87 (.ext (.t 82) 1),Ob 11 (.mov (.t 86)),Ob 12 (.mov (.t 87))])
 (.seq (.region [Ob 89 (.load (.t 7) (some 2)),Ob 90 (.mov (.t 2)),Ob 91 (.call 21 [(.t 89), (.t 90)]),Ob 88 (.mov (.t 91)),Ob 92 (.ext (.t 88) 0),Ob 93 (.ext (.t 88) 1),Ob 13 (.mov (.t 92)),Ob 14 (.mov (.t 93))])
 (.seq (.region [Ob 15 (.mov (.c (.bool false)))])
 (.seq (.seq (.region [Ob 16 (.mov (Ci 0))])
 (.block 0 (.loop (.seq (.seq (.region [Ob 94 (.mov (.t 16)),Ob 95 (.mov (.t 9)),Ob 96 (.len (.t 95)),Ob 97 (.bin .lss (.t 94) (.t 96))])
 (.cond (.t 97) (.skip)
 (.exit 0)))
 (.seq (.block 1 (.region [Ob 100 (.mov (.t 15)),Ob 101 (.mov (.t 100)),Og 102 101 false (.mov (.t 9)),Og 103 101 false (.mov (.t 16)),Og 104 101 false (.idx (.t 102) (.t 103) 1),Og 105 101 false (.load (.t 104) none),Og 106 101 false (.mov (.t 1)),Og 107 101 false (.bin .eql (.t 105) (.t 106)),Ob 108 (.pick (.t 101) (.c (.bool true)) (.t 107)),Ob 15 (.mov (.t 108))]))
 (.region [Ob 98 (.mov (.t 16)),Ob 99 (.bin .add (.t 98) (Ci 1)),Ob 16 (.mov (.t 99))]))))))
 (.seq (.region [Ob 109 (.mov (.t 12)),Ob 110 (.bin .eql (.t 109) (Ci 0)),Ob 111 (.mov (.t 110)),Og 112 111 true (.mov (.t 14)),Og 113 111 true (.bin .eql (.t 112) (Ci 0)),Ob 114 (.pick (.t 111) (.t 113) (.c (.bool false))),Ob 115 (.mov (.t 114)),Og 116 115 true (.mov (.t 13)),Og 117 115 true (.mov (.t 11)),Og 118 115 true (.bin .leq (.t 116) (.t 117)),Ob 119 (.pick (.t 115) (.t 118) (.c (.bool false))),Ob 120 (.mov (.t 119)),Og 121 120 true (.mov (.t 15)),Og 122 120 true (.mov (.t 13)),Og 123 120 true (.load (.t 3) (some 2)),Og 124 120 true (.call 36 [(.t 123)]),Og 125 120 true (.bin .lss (.t 122) (.t 124)),Og 126 120 true (.eqv false false [.b] (.t 121) (.t 125)),Ob 127 (.pick (.t 120) (.t 126) (.c (.bool false))),Ob 128 (.mov (.t 127)),Og 129 128 true (.call 12 []),Ob 130 (.pick (.t 128) (.t 129) (.c (.bool false))),Ob 6 (.mov (.t 130))])
 (.ret))))))))))
def r9 : List Res := [.t 6]
def a9 : AFn := ⟨3, c9, r9,.v⟩

def c10 : ACode := .seq (.region [Ob 3 (.box (.t 0) 2),Ob 6 (.mov (.c (.bool false)))])
 (.seq (.seq (.region [Ob 18 (.load (.t 3) (some 2)),Ob 19 (.mov (.t 1)),Ob 20 (.call 35 [(.t 18), (.t 19)]),Ob 21 (.not (.t 20)),Ob 22 (.mov (.t 21)),Og 23 22 false (.mov (.t 2)),Og 24 22 false (.bin .lss (.t 23) (Ci 1)),Ob 25 (.pick (.t 22) (.c (.bool true)) (.t 24)),Ob 26 (.mov (.t 25)),Og 27 26 false (.mov (.t 2)),Og 28 26 false (.bin .gtr (.t 27) (Ci 4)),Ob 29 (.pick (.t 26) (.c (.bool true)) (.t 28))])
 (.cond (.t 29) (.seq (.region [Ob 30 (.call 12 []),Ob 6 (.mov (.t 30))])
 (.ret))
 (.skip)))
 (.seq (.region [Ob 31 (.load (.t 3) (some 2)),Ob 32 (.call 13 [(.t 31)]),Ob 7 (.new (.agg [(.sl [] .tight), (.sl [] .tight)]) 2),On (.store (.t 7) (.t 32) 2)])
 (.seq (.seq (.region [Ob 8 (.mov (Ci 0))])
 (.block 0 (.loop (.seq (.seq (.region [Ob 33 (.mov (.t 8)),Ob 34 (.addr (.t 7) 0),Ob 35 (.load (.t 34) none),Ob 36 (.len (.t 35)),Ob 37 (.bin .lss (.t 33) (.t 36))])
 (.cond (.t 37) (.skip)
 (.exit 0)))
 (.seq (.block 1 (.region [Ob 40 (.addr (.t 7) 0),Ob 41 (.load (.t 40) none),Ob 42 (.mov (.t 8)),Ob 43 (.idx (.t 41) (.t 42) 1),Ob 44 (.load (.t 43) none),Ob 45 (.mov (.t 2)),Ob 46 (.bin .mul (.t 44) (.t 45)),Ob 47 (.idx (.t 41) (.t 42) 1),On (.store (.t 47) (.t 46) 1)]))
 (.region [Ob 38 (.mov (.t 8)),Ob 39 (.bin .add (.t 38) (Ci 1)),Ob 8 (.mov (.t 39))]))))))
 (.seq (.seq (.region [Ob 9 (.mov (Ci 0))])
 (.block 2 (.loop (.seq (.seq (.region [Ob 48 (.mov (.t 9)),Ob 49 (.addr (.t 7) 1),Ob 50 (.load (.t 49) none),Ob 51 (.len (.t 50)),Ob 52 (.bin .lss (.t 48) (.t 51))])
 (.cond (.t 52) (.skip)
 (.exit 2)))
 (.seq (.block 3 (.region [Ob 55 (.addr (.t 7) 1),Ob 56 (.load (.t 55) none),Ob 57 (.mov (.t 9)),Ob 58 (.idx (.t 56) (.t 57) 4),Ob 59 (.addr (.t 58) 2),Ob 60 (.load (.t 59) none),Ob 61 (.mov (.t 2)),Ob 62 (.bin .mul (.t 60) (.t 61)),Ob 63 (.idx (.t 56) (.t 57) 4),Ob 64 (.addr (.t 63) 2),On (.store (.t 64) (.t 62) 1)]))
 (.region [Ob 53 (.mov (.t 9)),Ob 54 (.bin .add (.t 53) (Ci 1)),Ob 9 (.mov (.t 54))]))))))
 (.seq (.seq (.region [Ob 65 (.load (.t 7) (some 2)),Ob 66 (.call 15 [(.t 65)]),Ob 67 (.bin .neq (.t 66) (Ci 0))])
 (.cond (.t 67) (.seq (.region [Ob 68 (.call 12 []),Ob 6 (.mov (.t 68))])
 (.ret))
 (.skip)))
 (.seq (.region [Ob 70 (.load (.t 3) (some 2)),Ob 71 (.mov (.t 1)),Ob 72 (.call 21 [(.t 70), (.t 71)]),Ob 69 (.mov (.t 72)),Ob 73 (.ext (.t 69) 0),Ob 74 (.ext (.t 69) 1),Ob 10 (.mov (.t 73)),Ob 11 (.mov (.t 74))])
 (.seq (.region [Ob 76 (.load (.t 7) (some 2)),Ob 77 (.mov (.t 1)),Ob 78 (.call 21 [(.t 76), (.t 77)]),Ob 75 (.mov (.t 78)),Ob 79 (.ext (.t 75) 0),Ob 80 (.ext (.t 75) 1),Ob 12 (.mov (.t 79)),Ob 13 (.mov (.t 80))])
 (.seq (.region [Ob 82 (.load (.t 3) (some 2)),Ob 83 (.call 29 [(.t 82)]),Ob 81 (.mov (.t 83)),Ob 84 (.ext (.t 81) 0),Ob 85 (.ext (.t 81) 1),Ob 14 (.mov (.t 84)),Ob 15 (.mov (.t 85))])
 (.seq (.region [Ob 87 (.load (.t 7) (some 2)),Ob 88 (.call 29 [(.t 87)]),Ob 86 (.mov (.t 88)),Ob 89 (.ext (.t 86) 0),Ob 90 (.ext (.t 86) 1),Ob 16 (.mov (.t 89)),Ob 17 (.mov (.t 90))])
 (.seq (.region [Ob 91 (.mov (.t 11)),Ob 92 (.bin .eql (.t 91) (Ci 0)),Ob 93 (.mov (.t 92)),Og 94 93 true (.mov (.t 13)),Og 95 93 true (.bin .eql (.t 94) (Ci 0)),Ob 96 (.pick (.t 93) (.t 95) (.c (.bool false))),Ob 97 (.mov (.t 96)),Og 98 97 true (.mov (.t 12)),Og 99 97 true (.mov (.t 2)),Og 100 97 true (.mov (.t 10)),Og 101 97 true (.bin .mul (.t 99) (.t 100)),Og 102 97 true (.bin .eql (.t 98) (.t 101)),Ob 103 (.pick (.t 97) (.t 102) (.c (.bool false))),Ob 104 (.mov (.t 103)),Og 105 104 true (.mov (.t 14)),Og 106 104 true (.mov (.t 16)),Og 107 104 true (.bin .eql (.t 105) (.t 106)),Ob 108 (.pick (.t 104) (.t 107) (.c (.bool false))),Ob 109 (.mov (.t 108)),Og 110 109 true (.mov (.t 15)),Og 111 109 true (.mov (.t 17)),Og 112 109 true (.bin .eql (.t 110) (.t 111)),Ob 113 (.pick (.t 109) (.t 112) (.c (.bool false))),Ob 114 (.mov (.t 113)),Og 115 114 true (.call 12 []),Ob 116 (.pick (.t 114) (.t 115) (.c (.bool false))),Ob 6 (.mov (.t 116))])
 (.ret)))))))))))
def r10 : List Res := [.t 6]
def a10 : AFn := ⟨3, c10, r10,.v⟩

def c11 : ACode := .seq (.region [Ob 1 (.box (.t 0) 2),Ob 2 (.mov (.c (.bool false)))])
 (.seq (.region [Ob 3 (.addr (.t 1) 0),Ob 4 (.load (.t 3) none),Ob 5 (.len (.t 4)),Ob 6 (.bin .gtr (.t 5) (Ci 40)),Ob 7 (.mov (.t 6)),Og 8 7 false (.addr (.t 1) 1),Og 9 7 false (.load (.t 8) none),Og 10 7 false (.len (.t 9)),Og 11 7 false (.bin .gtr (.t 10) (Ci 40)),Ob 12 (.pick (.t 7) (.c (.bool true)) (.t 11)),Ob 2 (.mov (.t 12))])
 (.ret))
def r11 : List Res := [.t 2]
def a11 : AFn := ⟨1, c11, r11,.v⟩

def c12 : ACode := .seq (.region [Ob 0 (.mov (.c (.bool false)))])
 (.seq (.region [Ob 10 (.call 37 []),Ob 1 (.new (.agg [(.sl [] .tight), (.sl [] .tight)]) 2),On (.store (.t 1) (.t 10) 2)])
 (.seq (.region [Ob 12 (.load (.t 1) (some 2)),Ob 13 (.call 21 [(.t 12), (Ci 2)]),Ob 11 (.mov (.t 13)),Ob 14 (.ext (.t 11) 0),Ob 15 (.ext (.t 11) 1),Ob 2 (.mov (.t 14)),Ob 3 (.mov (.t 15))])
 (.seq (.region [Ob 17 (.load (.t 1) (some 2)),Ob 18 (.call 29 [(.t 17)]),Ob 16 (.mov (.t 18)),Ob 19 (.ext (.t 16) 0),Ob 20 (.ext (.t 16) 1),Ob 4 (.mov (.t 19)),Ob 5 (.mov (.t 20))])
 (.seq (.region [Ob 22 (.load (.t 1) (some 2)),Ob 23 (.call 33 [(.t 22), (Ci 3)]),Ob 21 (.mov (.t 23)),Ob 24 (.ext (.t 21) 0),Ob 25 (.ext (.t 21) 1),Ob 6 (.mov (.t 24)),Ob 7 (.mov (.t 25))])
 (.seq (.region [Ob 27 (.load (.t 1) (some 2)),Ob 28 (.build [(.int .i64 0), (.int .i64 0), (.int .i64 0)] [(2, 1, (Ci 2))]),Ob 29 (.build [(.int .i64 0), (.int .i64 0), (.int .i64 0)] [(1, 1, (Ci 1)), (2, 1, (Ci 1))]),Ob 30 (.build [(.int .i64 0), (.int .i64 0), (.int .i64 0)] [(1, 1, (Ci 2)), (2, 1, (Ci 3))]),Ob 31 (.build [(.int .i64 0), (.int .i64 0), (.int .i64 0)] [(0, 1, (Ci 1)), (1, 1, (Ci 2)), (2, 1, (Ci 3))]),Ob 32 (.lit false 35 3 [(.t 28), (.t 29), (.t 30), (.t 31)]),Ob 33 (.call 16 [(.t 27), (Ci 2), (.t 32)]),Ob 26 (.mov (.t 33)),Ob 34 (.ext (.t 26) 0),Ob 35 (.ext (.t 26) 1),Ob 8 (.mov (.t 34)),Ob 9 (.mov (.t 35))])
 (.seq (.region [Ob 36 (.mov (.t 3)),Ob 37 (.bin .eql (.t 36) (Ci 0)),Ob 38 (.mov (.t 37)),Og 39 38 true (.mov (.t 5)),Og 40 38 true (.bin .eql (.t 39) (Ci 0)),Ob 41 (.pick (.t 38) (.t 40) (.c (.bool false))),Ob 42 (.mov (.t 41)),Og 43 42 true (.mov (.t 7)),Og 44 42 true (.bin .eql (.t 43) (Ci 0)),Ob 45 (.pick (.t 42) (.t 44) (.c (.bool false))),Ob 46 (.mov (.t 45)),Og 47 46 true (.mov (.t 9)),Og 48 46 true (.bin .eql (.t 47) (Ci 0)),Ob 49 (.pick (.t 46) (.t 48) (.c (.bool false))),Ob 50 (.mov (.t 49)),Og 51 50 true (.mov (.t 2)),Og 52 50 true (.bin .eql (.t 51) (Ci 7)),Ob 53 (.pick (.t 50) (.t 52) (.c (.bool false))),Ob 54 (.mov (.t 53)),Og 55 54 true (.mov (.t 4)),Og 56 54 true (.bin .eql (.t 55) (Ci 3)),Ob 57 (.pick (.t 54) (.t 56) (.c (.bool false))),Ob 58 (.mov (.t 57)),Og 59 58 true (.mov (.t 6)),Og 60 58 true (.lit false 3 1 [(Ci 0), (Ci 1), (Ci 2)]),Og 61 58 true (.call 18 [(.t 59), (.t 60)]),Ob 62 (.pick (.t 58) (.t 61) (.c (.bool false))),Ob 63 (.mov (.t 62)),Og 64 63 true (.mov (.t 8)),Og 65 63 true (.bin .eql (.t 64) (Ci 7)),Ob 66 (.pick (.t 63) (.t 65) (.c (.bool false))),Ob 0 (.mov (.t 66))])
 (.ret)))))))
def r12 : List Res := [.t 0]
def a12 : AFn := ⟨0, c12, r12,.v⟩

def c13 : ACode := .seq (.region [Ob 1 (.box (.t 0) 2),Ob 2 (.new (.agg [(.sl [] .tight), (.sl [] .tight)]) 2)])
 (.seq (.region [Ob 3 (.lit false 3 1 []),Ob 4 (.addr (.t 1) 0),Ob 5 (.load (.t 4) none),Ob 7 (.lit false 52 4 []),Ob 8 (.addr (.t 1) 1),Ob 9 (.load (.t 8) none),Ob 6 (.app0 (.t 3) (.t 5) 3 1 8),Ob 10 (.app0 (.t 7) (.t 9) 52 4 32),Ob 11 (.build [(.sl [] .tight), (.sl [] .tight)] [(0, 1, (.t 6)), (1, 1, (.t 10))]),On (.store (.t 2) (.t 11) 2)])
 (.ret))
def r13 : List Res := [.cell 2 (some 2)]
def a13 : AFn := ⟨1, c13, r13,.o⟩

def c14 : ACode := .seq (.region [Ob 1 (.box (.t 0) 2),Ob 2 (.mov (Ci 0))])
 (.seq (.seq (.region [Ob 3 (.load (.t 1) (some 2)),Ob 4 (.call 38 [(.t 3)]),Ob 5 (.not (.t 4))])
 (.cond (.t 5) (.seq (.region [Ob 2 (.mov (Ci 110))])
 (.ret))
 (.skip)))
 (.seq (.region [Ob 2 (.mov (Ci 0))])
 (.ret)))
def r14 : List Res := [.t 2]
def a14 : AFn := ⟨1, c14, r14,.v⟩

def c15 : ACode := .seq (.region [Ob 1 (.box (.t 0) 2),Ob 2 (.mov (Ci 0))])
 (.seq (.seq (.region [Ob 6 (.addr (.t 1) 0),Ob 7 (.load (.t 6) none),Ob 8 (.len (.t 7)),Ob 9 (.call 39 [(.t 8), (Ci 1), (Ci 6)]),Ob 10 (.not (.t 9)),Ob 11 (.mov (.t 10)),Og 12 11 false (.addr (.t 1) 1),Og 13 11 false (.load (.t 12) none),Og 14 11 false (.len (.t 13)),Og 15 11 false (.bin .gtr (.t 14) (Ci 12)),Ob 16 (.pick (.t 11) (.c (.bool true)) (.t 15))])
 (.cond (.t 16) (.seq (.region [Ob 2 (.mov (Ci 110))])
 (.ret))
 (.skip)))
 (.seq (.seq (.region [Ob 3 (.mov (Ci 0))])
 (.block 0 (.loop (.seq (.seq (.region [Ob 17 (.mov (.t 3)),Ob 18 (.addr (.t 1) 0),Ob 19 (.load (.t 18) none),Ob 20 (.len (.t 19)),Ob 21 (.bin .lss (.t 17) (.t 20))])
 (.cond (.t 21) (.skip)
 (.exit 0)))
 (.seq (.block 1 (.seq (.region [Ob 24 (.addr (.t 1) 0),Ob 25 (.load (.t 24) none),Ob 26 (.mov (.t 3)),Ob 27 (.idx (.t 25) (.t 26) 1),Ob 28 (.load (.t 27) none),Ob 29 (.call 39 [(.t 28), (Ci 0), (Ci 99)]),Ob 30 (.not (.t 29))])
 (.cond (.t 30) (.seq (.region [Ob 2 (.mov (Ci 110))])
 (.ret))
 (.skip))))
 (.region [Ob 22 (.mov (.t 3)),Ob 23 (.bin .add (.t 22) (Ci 1)),Ob 3 (.mov (.t 23))]))))))
 (.seq (.seq (.region [Ob 4 (.mov (Ci 0))])
 (.block 2 (.loop (.seq (.seq (.region [Ob 31 (.mov (.t 4)),Ob 32 (.addr (.t 1) 1),Ob 33 (.load (.t 32) none),Ob 34 (.len (.t 33)),Ob 35 (.bin .lss (.t 31) (.t 34))])
 (.cond (.t 35) (.skip)
 (.exit 2)))
 (.seq (.block 3 (.seq (.region [Ob 38 (.addr (.t 1) 1),Ob 39 (.load (.t 38) none),Ob 40 (.mov (.t 4)),Ob 41 (.idx (.t 39) (.t 40) 4),Ob 42 (.load (.t 41) (some 4)),Ob 5 (.new (.agg [(.int .i64 0), (.int .i64 0), (.int .i64 0), (.int .i64 0)]) 4),On (.store (.t 5) (.t 42) 4)])
 (.seq (.region [Ob 43 (.addr (.t 5) 0),Ob 44 (.load (.t 43) none),Ob 45 (.addr (.t 1) 0),Ob 46 (.load (.t 45) none),Ob 47 (.len (.t 46)),Ob 48 (.bin .sub (.t 47) (Ci 1)),Ob 49 (.call 39 [(.t 44), (Ci 0), (.t 48)]),Ob 50 (.not (.t 49)),Ob 51 (.mov (.t 50)),Og 52 51 false (.addr (.t 5) 1),Og 53 51 false (.load (.t 52) none),Og 54 51 false (.addr (.t 1) 0),Og 55 51 false (.load (.t 54) none),Og 56 51 false (.len (.t 55)),Og 57 51 false (.bin .sub (.t 56) (Ci 1)),Og 58 51 false (.call 39 [(.t 53), (Ci (-1)), (.t 57)]),Og 59 51 false (.not (.t 58)),Ob 60 (.pick (.t 51) (.c (.bool true)) (.t 59)),Ob 61 (.mov (.t 60)),Og 62 61 false (.addr (.t 5) 0),Og 63 61 false (.load (.t 62) none),Og 64 61 false (.addr (.t 5) 1),Og 65 61 false (.load (.t 64) none),Og 66 61 false (.bin .eql (.t 63) (.t 65)),Ob 67 (.pick (.t 61) (.c (.bool true)) (.t 66)),Ob 68 (.mov (.t 67)),Og 69 68 false (.addr (.t 5) 2),Og 70 68 false (.load (.t 69) none),Og 71 68 false (.call 39 [(.t 70), (Ci 0), (Ci 20)]),Og 72 68 false (.not (.t 71)),Ob 73 (.pick (.t 68) (.c (.bool true)) (.t 72)),Ob 74 (.mov (.t 73)),Og 75 74 false (.addr (.t 5) 3),Og 76 74 false (.load (.t 75) none),Og 77 74 false (.call 39 [(.t 76), (Ci 1), (Ci 9)]),Og 78 74 false (.not (.t 77)),Ob 79 (.pick (.t 74) (.c (.bool true)) (.t 78))])
 (.cond (.t 79) (.seq (.region [Ob 2 (.mov (Ci 110))])
 (.ret))
 (.skip)))))
 (.region [Ob 36 (.mov (.t 4)),Ob 37 (.bin .add (.t 36) (Ci 1)),Ob 4 (.mov (.t 37))]))))))
 (.seq (.region [Ob 2 (.mov (Ci 0))])
 (.ret)))))
def r15 : List Res := [.t 2]
def a15 : AFn := ⟨1, c15, r15,.v⟩

def c16 : ACode := .seq (.region [Ob 3 (.box (.t 0) 2),Ob 6 (.mov (Ci 0)),Ob 7 (.mov (Ci 0))])
 (.seq (.seq (.region [Ob 10 (.load (.t 3) (some 2)),Ob 11 (.mov (.t 1)),Ob 12 (.call 40 [(.t 10), (.t 11)]),Ob 8 (.mov (.t 12))])
 (.seq (.region [Ob 13 (.mov (.t 8)),Ob 14 (.bin .neq (.t 13) (Ci 0))])
 (.cond (.t 14) (.seq (.region [Ob 15 (.mov (.t 8)),Ob 6 (.mov (Ci 0)),Ob 7 (.mov (.t 15))])
 (.ret))
 (.skip))))
 (.seq (.region [Ob 16 (.load (.t 3) (some 2)),Ob 17 (.mov (.t 1)),Ob 18 (.call 41 [(.t 16), (.t 17)]),Ob 9 (.new (.agg [(.sl [] .tight), (.sl [] .tight), (.int .i64 0),.nilm]) 4),On (.store (.t 9) (.t 18) 4)])
 (.seq (.seq (.region [Ob 19 (.load (.t 9) (some 4)),Ob 20 (.mov (.t 2)),Ob 21 (.call 42 [(.t 19), (.t 20)]),Ob 22 (.not (.t 21))])
 (.cond (.t 22) (.seq (.region [Ob 6 (.mov (Ci 0)),Ob 7 (.mov (Ci 111))])
 (.ret))
 (.skip)))
 (.seq (.region [Ob 23 (.load (.t 9) (some 4)),Ob 24 (.call 43 [(.t 23)]),Ob 6 (.mov (.t 24)),Ob 7 (.mov (Ci 0))])
 (.ret)))))
def r16 : List Res := [.t 6,.t 7]
def a16 : AFn := ⟨3, c16, r16,.v⟩

def c17 : ACode := .seq (.region [Ob 3 (.box (.t 0) 2),Ob 6 (.mov (Ci 0)),Ob 7 (.mov (Ci 0))])
 (.seq (.seq (.region [Ob 9 (.load (.t 3) (some 2)),Ob 10 (.mov (.t 1)),Ob 11 (.call 44 [(.t 9), (.t 10)]),Ob 8 (.mov (.t 11))])
 (.seq (.region [Ob 12 (.mov (.t 8)),Ob 13 (.bin .neq (.t 12) (Ci 0))])
 (.cond (.t 13) (.seq (.region [Ob 14 (.mov (.t 8)),Ob 6 (.mov (Ci 0)),Ob 7 (.mov (.t 14))])
 (.ret))
 (.skip))))
 (.seq (.seq (.region [Ob 15 (.load (.t 3) (some 2)),Ob 16 (.mov (.t 1)),Ob 17 (.mov (.t 2)),Ob 18 (.call 25 [(.t 15), (.t 16), (.t 17)]),Ob 19 (.not (.t 18))])
 (.cond (.t 19) (.seq (.region [Ob 6 (.mov (Ci 0)),Ob 7 (.mov (Ci 111))])
 (.ret))
 (.skip)))
 (.seq (.region [Ob 20 (.load (.t 3) (some 2)),Ob 21 (.mov (.t 2)),Ob 22 (.call 45 [(.t 20), (.t 21)]),Ob 6 (.mov (.t 22)),Ob 7 (.mov (Ci 0))])
 (.ret))))
def r17 : List Res := [.t 6,.t 7]
def a17 : AFn := ⟨3, c17, r17,.v⟩

def c18 : ACode := .seq (.region [Ob 4 (.mov (.c (.bool false)))])
 (.seq (.seq (.region [Ob 6 (.mov (.t 0)),Ob 7 (.len (.t 6)),Ob 8 (.mov (.t 1)),Ob 9 (.len (.t 8)),Ob 10 (.bin .neq (.t 7) (.t 9))])
 (.cond (.t 10) (.seq (.region [Ob 4 (.mov (.c (.bool false)))])
 (.ret))
 (.skip)))
 (.seq (.seq (.region [Ob 5 (.mov (Ci 0))])
 (.block 0 (.loop (.seq (.seq (.region [Ob 11 (.mov (.t 5)),Ob 12 (.mov (.t 0)),Ob 13 (.len (.t 12)),Ob 14 (.bin .lss (.t 11) (.t 13))])
 (.cond (.t 14) (.skip)
 (.exit 0)))
 (.seq (.block 1 (.seq (.region [Ob 17 (.mov (.t 0)),Ob 18 (.mov (.t 5)),Ob 19 (.idx (.t 17) (.t 18) 1),Ob 20 (.load (.t 19) none),Ob 21 (.mov (.t 1)),Ob 22 (.mov (.t 5)),Ob 23 (.idx (.t 21) (.t 22) 1),Ob 24 (.load (.t 23) none),Ob 25 (.bin .neq (.t 20) (.t 24))])
 (.cond (.t 25) (.seq (.region [Ob 4 (.mov (.c (.bool false)))])
 (.ret))
 (.skip))))
 (.region [Ob 15 (.mov (.t 5)),Ob 16 (.bin .add (.t 15) (Ci 1)),Ob 5 (.mov (.t 16))]))))))
 (.seq (.region [Ob 4 (.mov (.c (.bool true)))])
 (.ret))))
def r18 : List Res := [.t 4]
def a18 : AFn := ⟨2, c18, r18,.v⟩

def c19 : ACode := .seq (.region [Ob 1 (.box (.t 0) 2),Ob 2 (.mov (.c (.bool false)))])
 (.seq (.region [Ob 3 (.load (.t 1) (some 2)),Ob 4 (.call 11 [(.t 3)]),Ob 5 (.mov (.t 4)),Og 6 5 false (.load (.t 1) (some 2)),Og 7 5 false (.call 15 [(.t 6)]),Og 8 5 false (.bin .eql (.t 7) (Ci 0)),Og 9 5 false (.mov (.t 8)),Og 10 9 true (.addr (.t 1) 0),Og 11 9 true (.load (.t 10) none),Og 12 9 true (.len (.t 11)),Og 13 9 true (.bin .gtr (.t 12) (Ci 3)),Og 14 9 true (.mov (.t 13)),Og 15 14 false (.addr (.t 1) 1),Og 16 14 false (.load (.t 15) none),Og 17 14 false (.len (.t 16)),Og 18 14 false (.bin .gtr (.t 17) (Ci 5)),Og 19 9 true (.pick (.t 14) (.c (.bool true)) (.t 18)),Og 20 9 true (.mov (.t 19)),Og 21 20 false (.load (.t 1) (some 2)),Og 22 20 false (.call 36 [(.t 21)]),Og 23 20 false (.bin .gtr (.t 22) (Ci 12)),Og 24 9 true (.pick (.t 20) (.c (.bool true)) (.t 23)),Og 25 5 false (.pick (.t 9) (.t 24) (.c (.bool false))),Ob 26 (.pick (.t 5) (.c (.bool true)) (.t 25)),Ob 2 (.mov (.t 26))])
 (.ret))
def r19 : List Res := [.t 2]
def a19 : AFn := ⟨1, c19, r19,.v⟩

def c20 : ACode := .seq (.region [Ob 2 (.mov (.c (.bool false)))])
 (.seq (.region [Ob 3 (.mov (.t 0)),Ob 4 (.bin .gtr (.t 3) (Ci 10)),Ob 5 (.mov (.t 4)),Og 6 5 true (.mov (.t 0)),Og 7 5 true (.bin .leq (.t 6) (Ci 60)),Ob 8 (.pick (.t 5) (.t 7) (.c (.bool false))),Ob 2 (.mov (.t 8))])
 (.ret))
def r20 : List Res := [.t 2]
def a20 : AFn := ⟨1, c20, r20,.v⟩

def c21 : ACode := .seq (.region [Ob 2 (.box (.t 0) 2),Ob 4 (.mov (Ci 0)),Ob 5 (.mov (Ci 0))])
 (.seq (.seq (.region [Ob 7 (.load (.t 2) (some 2)),Ob 8 (.mov (.t 1)),Ob 9 (.call 40 [(.t 7), (.t 8)]),Ob 6 (.mov (.t 9))])
 (.seq (.region [Ob 10 (.mov (.t 6)),Ob 11 (.bin .neq (.t 10) (Ci 0))])
 (.cond (.t 11) (.seq (.region [Ob 12 (.mov (.t 6)),Ob 4 (.mov (Ci 0)),Ob 5 (.mov (.t 12))])
 (.ret))
 (.skip))))
 (.seq (.region [Ob 13 (.load (.t 2) (some 2)),Ob 14 (.mov (.t 1)),Ob 15 (.call 46 [(.t 13), (.t 14)]),Ob 16 (.fld (.t 15) 0 (some 4)),Ob 17 (.call 43 [(.t 16)]),Ob 4 (.mov (.t 17)),Ob 5 (.mov (Ci 0))])
 (.ret)))
def r21 : List Res := [.t 4,.t 5]
def a21 : AFn := ⟨2, c21, r21,.v⟩

def c22 : ACode := .seq (.region [Ob 2 (.box (.t 0) 2),Ob 4 (.mov (Ci 0)),Ob 5 (.mov (Ci 0))])
 (.seq (.seq (.region [Ob 7 (.load (.t 2) (some 2)),Ob 8 (.mov (.t 1)),Ob 9 (.call 44 [(.t 7), (.t 8)]),Ob 6 (.mov (.t 9))])
 (.seq (.region [Ob 10 (.mov (.t 6)),Ob 11 (.bin .neq (.t 10) (Ci 0))])
 (.cond (.t 11) (.seq (.region [Ob 12 (.mov (.t 6)),Ob 4 (.mov (Ci 0)),Ob 5 (.mov (.t 12))])
 (.ret))
 (.skip))))
 (.seq (.region [Ob 13 (.load (.t 2) (some 2)),Ob 14 (.mov (.t 1)),Ob 15 (.call 47 [(.t 13), (.t 14)]),Ob 4 (.mov (.t 15)),Ob 5 (.mov (Ci 0))])
 (.ret)))
def r22 : List Res := [.t 4,.t 5]
def a22 : AFn := ⟨2, c22, r22,.v⟩

def c23 : ACode := .seq (.region [Ob 2 (.box (.t 0) 2),Ob 4 (.mov (.c (.sl [] .tight))),Ob 5 (.mov (Ci 0))])
 (.seq (.seq (.region [Ob 7 (.load (.t 2) (some 2)),Ob 8 (.mov (.t 1)),Ob 9 (.call 40 [(.t 7), (.t 8)]),Ob 6 (.mov (.t 9))])
 (.seq (.region [Ob 10 (.mov (.t 6)),Ob 11 (.bin .neq (.t 10) (Ci 0))])
 (.cond (.t 11) (.seq (.region [Ob 12 (.mov (.t 6)),Ob 4 (.mov (.c (.sl [] .tight))),Ob 5 (.mov (.t 12))])
 (.ret))
 (.skip))))
 (.seq (.region [Ob 13 (.load (.t 2) (some 2)),Ob 14 (.mov (.t 1)),Ob 15 (.call 46 [(.t 13), (.t 14)]),Ob 16 (.fld (.t 15) 0 (some 4)),Ob 17 (.call 48 [(.t 16)]),Ob 4 (.mov (.t 17)),Ob 5 (.mov (Ci 0))])
 (.ret)))
def r23 : List Res := [.t 4,.t 5]
def a23 : AFn := ⟨2, c23, r23,.v⟩

def c24 : ACode := .seq (.region [Ob 2 (.box (.t 0) 2),Ob 4 (.mov (.c (.sl [] .tight))),Ob 5 (.mov (Ci 0))])
 (.seq (.seq (.region [Ob 7 (.load (.t 2) (some 2)),Ob 8 (.mov (.t 1)),Ob 9 (.call 40 [(.t 7), (.t 8)]),Ob 6 (.mov (.t 9))])
 (.seq (.region [Ob 10 (.mov (.t 6)),Ob 11 (.bin .neq (.t 10) (Ci 0))])
 (.cond (.t 11) (.seq (.region [Ob 12 (.mov (.t 6)),Ob 4 (.mov (.c (.sl [] .tight))),Ob 5 (.mov (.t 12))])
 (.ret))
 (.skip))))
 (.seq (.region [Ob 13 (.load (.t 2) (some 2)),Ob 14 (.mov (.t 1)),Ob 15 (.call 46 [(.t 13), (.t 14)]),Ob 16 (.call 49 [(.t 15)]),Ob 4 (.mov (.t 16)),Ob 5 (.mov (Ci 0))])
 (.ret)))
def r24 : List Res := [.t 4,.t 5]
def a24 : AFn := ⟨2, c24, r24,.v⟩

def c25 : ACode := .seq (.region [Ob 3 (.box (.t 0) 2),Ob 6 (.mov (.c (.bool false)))])
 (.seq (.seq (.region [Ob 7 (.mov (Ci 0))])
 (.block 0 (.loop (.seq (.seq (.region [Ob 16 (.mov (.t 7)),Ob 17 (.mov (.t 2)),Ob 18 (.len (.t 17)),Ob 19 (.bin .lss (.t 16) (.t 18))])
 (.cond (.t 19) (.skip)
 (.exit 0)))
 (.seq (.block 1 (.seq (.region [Ob 22 (.mov (.t 2)),Ob 23 (.mov (.t 7)),Ob 24 (.idx (.t 22) (.t 23) 3),Ob 25 (.load (.t 24) (some 3)),Ob 8 (.new (.agg [(.int .i64 0), (.int .i64 0), (.int .i64 0)]) 3),On (.store (.t 8) (.t 25) 3)])
 (.seq (.seq (.region [Ob 26 (.addr (.t 8) 0),Ob 27 (.load (.t 26) none),Ob 28 (.mov (.t 1)),Ob 29 (.call 39 [(.t 27), (Ci 0), (.t 28)]),Ob 30 (.not (.t 29)),Ob 31 (.mov (.t 30)),Og 32 31 false (.addr (.t 8) 1),Og 33 31 false (.load (.t 32) none),Og 34 31 false (.addr (.t 3) 1),Og 35 31 false (.load (.t 34) none),Og 36 31 false (.len (.t 35)),Og 37 31 false (.bin .sub (.t 36) (Ci 1)),Og 38 31 false (.call 39 [(.t 33), (Ci 0), (.t 37)]),Og 39 31 false (.not (.t 38)),Ob 40 (.pick (.t 31) (.c (.bool true)) (.t 39)),Ob 41 (.mov (.t 40)),Og 42 41 false (.addr (.t 8) 2),Og 43 41 false (.load (.t 42) none),Og 44 41 false (.bin .lss (.t 43) (Ci 1)),Ob 45 (.pick (.t 41) (.c (.bool true)) (.t 44)),Ob 46 (.mov (.t 45)),Og 47 46 false (.addr (.t 8) 2),Og 48 46 false (.load (.t 47) none),Og 49 46 false (.bin .gtr (.t 48) (Ci 20)),Ob 50 (.pick (.t 46) (.c (.bool true)) (.t 49)),Ob 51 (.mov (.t 50)),Og 52 51 false (.addr (.t 8) 0),Og 53 51 false (.load (.t 52) none),Og 54 51 false (.addr (.t 3) 1),Og 55 51 false (.load (.t 54) none),Og 56 51 false (.addr (.t 8) 1),Og 57 51 false (.load (.t 56) none),Og 58 51 false (.idx (.t 55) (.t 57) 4),Og 59 51 false (.addr (.t 58) 3),Og 60 51 false (.load (.t 59) none),Og 61 51 false (.bin .add (.t 53) (.t 60)),Og 62 51 false (.mov (.t 1)),Og 63 51 false (.bin .gtr (.t 61) (.t 62)),Ob 64 (.pick (.t 51) (.c (.bool true)) (.t 63))])
 (.cond (.t 64) (.seq (.region [Ob 6 (.mov (.c (.bool false)))])
 (.ret))
 (.skip)))
 (.seq (.region [Ob 9 (.mov (Ci 0))])
 (.seq (.seq (.region [Ob 10 (.mov (Ci 0))])
 (.block 2 (.loop (.seq (.seq (.region [Ob 65 (.mov (.t 10)),Ob 66 (.mov (.t 7)),Ob 67 (.bin .leq (.t 65) (.t 66))])
 (.cond (.t 67) (.skip)
 (.exit 2)))
 (.seq (.block 3 (.seq (.region [Ob 70 (.mov (.t 2)),Ob 71 (.mov (.t 10)),Ob 72 (.idx (.t 70) (.t 71) 3),Ob 73 (.addr (.t 72) 0),Ob 74 (.load (.t 73) none),Ob 75 (.addr (.t 8) 0),Ob 76 (.load (.t 75) none),Ob 77 (.bin .eql (.t 74) (.t 76)),Ob 78 (.mov (.t 77)),Og 79 78 true (.mov (.t 2)),Og 80 78 true (.mov (.t 10)),Og 81 78 true (.idx (.t 79) (.t 80) 3),Og 82 78 true (.addr (.t 81) 1),Og 83 78 true (.load (.t 82) none),Og 84 78 true (.addr (.t 8) 1),Og 85 78 true (.load (.t 84) none),Og 86 78 true (.bin .eql (.t 83) (.t 85)),Ob 87 (.pick (.t 78) (.t 86) (.c (.bool false)))])
 (.cond (.t 87) (.region [Ob 88 (.mov (.t 9)),Ob 89 (.mov (.t 2)),Ob 90 (.mov (.t 10)),Ob 91 (.idx (.t 89) (.t 90) 3),Ob 92 (.addr (.t 91) 2),Ob 93 (.load (.t 92) none),Ob 94 (.bin .add (.t 88) (.t 93)),Ob 9 (.mov (.t 94))])
 (.skip))))
 (.region [Ob 68 (.mov (.t 10)),Ob 69 (.bin .add (.t 68) (Ci 1)),Ob 10 (.mov (.t 69))]))))))
 (.seq (.region [Ob 95 (.mov (.t 9)),Ob 96 (.addr (.t 3) 1),Ob 97 (.load (.t 96) none),Ob 98 (.addr (.t 8) 1),Ob 99 (.load (.t 98) none),Ob 100 (.idx (.t 97) (.t 99) 4),Ob 101 (.addr (.t 100) 2),Ob 102 (.load (.t 101) none),Ob 103 (.bin .gtr (.t 95) (.t 102))])
 (.cond (.t 103) (.seq (.region [Ob 6 (.mov (.c (.bool false)))])
 (.ret))
 (.skip))))))))
 (.region [Ob 20 (.mov (.t 7)),Ob 21 (.bin .add (.t 20) (Ci 1)),Ob 7 (.mov (.t 21))]))))))
 (.seq (.seq (.region [Ob 11 (.mov (Ci 0))])
 (.block 4 (.loop (.seq (.seq (.region [Ob 104 (.mov (.t 11)),Ob 105 (.addr (.t 3) 0),Ob 106 (.load (.t 105) none),Ob 107 (.len (.t 106)),Ob 108 (.bin .lss (.t 104) (.t 107))])
 (.cond (.t 108) (.skip)
 (.exit 4)))
 (.seq (.block 5 (.seq (.region [Ob 12 (.mov (Ci 0))])
 (.block 6 (.loop (.seq (.seq (.region [Ob 111 (.mov (.t 12)),Ob 112 (.mov (.t 1)),Ob 113 (.bin .leq (.t 111) (.t 112))])
 (.cond (.t 113) (.skip)
 (.exit 6)))
 (.seq (.block 7 (.seq (.region [Ob 116 (.addr (.t 3) 0),Ob 117 (.load (.t 116) none),Ob 118 (.mov (.t 11)),Ob 119 (.idx (.t 117) (.t 118) 1),Ob 120 (.load (.t 119) none),Ob 13 (.mov (.t 120))])
 (.seq (.seq (.region [Ob 14 (.mov (Ci 0))])
 (.block 8 (.loop (.seq (.seq (.region [Ob 121 (.mov (.t 14)),Ob 122 (.mov (.t 2)),Ob 123 (.len (.t 122)),Ob 124 (.bin .lss (.t 121) (.t 123))])
 (.cond (.t 124) (.skip)
 (.exit 8)))
 (.seq (.block 9 (.seq (.region [Ob 127 (.addr (.t 3) 1),Ob 128 (.load (.t 127) none),Ob 129 (.mov (.t 2)),Ob 130 (.mov (.t 14)),Ob 131 (.idx (.t 129) (.t 130) 3),Ob 132 (.addr (.t 131) 1),Ob 133 (.load (.t 132) none),Ob 134 (.idx (.t 128) (.t 133) 4),Ob 135 (.load (.t 134) (some 4)),Ob 15 (.new (.agg [(.int .i64 0), (.int .i64 0), (.int .i64 0), (.int .i64 0)]) 4),On (.store (.t 15) (.t 135) 4)])
 (.seq (.seq (.region [Ob 136 (.addr (.t 15) 0),Ob 137 (.load (.t 136) none),Ob 138 (.mov (.t 11)),Ob 139 (.bin .eql (.t 137) (.t 138)),Ob 140 (.mov (.t 139)),Og 141 140 true (.mov (.t 2)),Og 142 140 true (.mov (.t 14)),Og 143 140 true (.idx (.t 141) (.t 142) 3),Og 144 140 true (.addr (.t 143) 0),Og 145 140 true (.load (.t 144) none),Og 146 140 true (.mov (.t 12)),Og 147 140 true (.bin .leq (.t 145) (.t 146)),Ob 148 (.pick (.t 140) (.t 147) (.c (.bool false)))])
 (.cond (.t 148) (.region [Ob 149 (.mov (.t 13)),Ob 150 (.mov (.t 2)),Ob 151 (.mov (.t 14)),Ob 152 (.idx (.t 150) (.t 151) 3),Ob 153 (.addr (.t 152) 2),Ob 154 (.load (.t 153) none),Ob 155 (.bin .sub (.t 149) (.t 154)),Ob 13 (.mov (.t 155))])
 (.skip)))
 (.seq (.region [Ob 156 (.addr (.t 15) 1),Ob 157 (.load (.t 156) none),Ob 158 (.mov (.t 11)),Ob 159 (.bin .eql (.t 157) (.t 158)),Ob 160 (.mov (.t 159)),Og 161 160 true (.mov (.t 2)),Og 162 160 true (.mov (.t 14)),Og 163 160 true (.idx (.t 161) (.t 162) 3),Og 164 160 true (.addr (.t 163) 0),Og 165 160 true (.load (.t 164) none),Og 166 160 true (.addr (.t 15) 3),Og 167 160 true (.load (.t 166) none),Og 168 160 true (.bin .add (.t 165) (.t 167)),Og 169 160 true (.mov (.t 12)),Og 170 160 true (.bin .leq (.t 168) (.t 169)),Ob 171 (.pick (.t 160) (.t 170) (.c (.bool false)))])
 (.cond (.t 171) (.region [Ob 172 (.mov (.t 13)),Ob 173 (.mov (.t 2)),Ob 174 (.mov (.t 14)),Ob 175 (.idx (.t 173) (.t 174) 3),Ob 176 (.addr (.t 175) 2),Ob 177 (.load (.t 176) none),Ob 178 (.bin .add (.t 172) (.t 177)),Ob 13 (.mov (.t 178))])
 (.skip))))))
 (.region [Ob 125 (.mov (.t 14)),Ob 126 (.bin .add (.t 125) (Ci 1)),Ob 14 (.mov (.t 126))]))))))
 (.seq (.region [Ob 179 (.mov (.t 13)),Ob 180 (.bin .lss (.t 179) (Ci 0))])
 (.cond (.t 180) (.seq (.region [Ob 6 (.mov (.c (.bool false)))])
 (.ret))
 (.skip))))))
 (.region [Ob 114 (.mov (.t 12)),Ob 115 (.bin .add (.t 114) (Ci 1)),Ob 12 (.mov (.t 115))])))))))
 (.region [Ob 109 (.mov (.t 11)),Ob 110 (.bin .add (.t 109) (Ci 1)),Ob 11 (.mov (.t 110))]))))))
 (.seq (.region [Ob 6 (.mov (.c (.bool true)))])
 (.ret))))
def r25 : List Res := [.t 6]
def a25 : AFn := ⟨3, c25, r25,.v⟩

def c26 : ACode := .seq (.region [Ob 2 (.box (.t 0) 2),Ob 4 (.mov (Ci 0))])
 (.seq (.region [Ob 5 (.mov (Ci 0))])
 (.seq (.seq (.region [Ob 6 (.mov (Ci 0))])
 (.block 0 (.loop (.seq (.seq (.region [Ob 7 (.mov (.t 6)),Ob 8 (.mov (.t 1)),Ob 9 (.len (.t 8)),Ob 10 (.bin .lss (.t 7) (.t 9))])
 (.cond (.t 10) (.skip)
 (.exit 0)))
 (.seq (.block 1 (.seq (.region [Ob 13 (.addr (.t 2) 1),Ob 14 (.load (.t 13) none),Ob 15 (.mov (.t 1)),Ob 16 (.mov (.t 6)),Ob 17 (.idx (.t 15) (.t 16) 3),Ob 18 (.addr (.t 17) 1),Ob 19 (.load (.t 18) none),Ob 20 (.idx (.t 14) (.t 19) 4),Ob 21 (.addr (.t 20) 1),Ob 22 (.load (.t 21) none),Ob 23 (.bin .eql (.t 22) (Ci (-1)))])
 (.cond (.t 23) (.region [Ob 24 (.mov (.t 5)),Ob 25 (.mov (.t 1)),Ob 26 (.mov (.t 6)),Ob 27 (.idx (.t 25) (.t 26) 3),Ob 28 (.addr (.t 27) 2),Ob 29 (.load (.t 28) none),Ob 30 (.bin .add (.t 24) (.t 29)),Ob 5 (.mov (.t 30))])
 (.skip))))
 (.region [Ob 11 (.mov (.t 6)),Ob 12 (.bin .add (.t 11) (Ci 1)),Ob 6 (.mov (.t 12))]))))))
 (.seq (.region [Ob 31 (.mov (.t 5)),Ob 4 (.mov (.t 31))])
 (.ret))))
def r26 : List Res := [.t 4]
def a26 : AFn := ⟨2, c26, r26,.v⟩

def c27 : ACode := .seq (.region [Ob 3 (.box (.t 0) 2),Ob 6 (.mov (.c (.bool false)))])
 (.seq (.seq (.region [Ob 7 (.mov (Ci 0))])
 (.block 0 (.loop (.seq (.seq (.region [Ob 8 (.mov (.t 7)),Ob 9 (.mov (.t 2)),Ob 10 (.len (.t 9)),Ob 11 (.bin .lss (.t 8) (.t 10))])
 (.cond (.t 11) (.skip)
 (.exit 0)))
 (.seq (.block 1 (.seq (.region [Ob 14 (.mov (.t 2)),Ob 15 (.mov (.t 7)),Ob 16 (.idx (.t 14) (.t 15) 1),Ob 17 (.load (.t 16) none),Ob 18 (.mov (.t 1)),Ob 19 (.bin .add (.t 18) (Ci 1)),Ob 20 (.call 39 [(.t 17), (Ci 0), (.t 19)]),Ob 21 (.not (.t 20))])
 (.cond (.t 21) (.seq (.region [Ob 6 (.mov (.c (.bool false)))])
 (.ret))
 (.skip))))
 (.region [Ob 12 (.mov (.t 7)),Ob 13 (.bin .add (.t 12) (Ci 1)),Ob 7 (.mov (.t 13))]))))))
 (.seq (.region [Ob 22 (.mov (.t 2)),Ob 23 (.len (.t 22)),Ob 24 (.addr (.t 3) 0),Ob 25 (.load (.t 24) none),Ob 26 (.len (.t 25)),Ob 27 (.bin .eql (.t 23) (.t 26)),Ob 6 (.mov (.t 27))])
 (.ret)))
def r27 : List Res := [.t 6]
def a27 : AFn := ⟨3, c27, r27,.v⟩

def c28 : ACode := .seq (.region [Ob 3 (.box (.t 0) 2),Ob 6 (.mov (Ci 0))])
 (.seq (.region [Ob 7 (.mov (Ci 0))])
 (.seq (.seq (.region [Ob 8 (.mov (Ci 0))])
 (.block 0 (.loop (.seq (.seq (.region [Ob 12 (.mov (.t 8)),Ob 13 (.mov (.t 2)),Ob 14 (.len (.t 13)),Ob 15 (.bin .lss (.t 12) (.t 14))])
 (.cond (.t 15) (.skip)
 (.exit 0)))
 (.seq (.block 1 (.seq (.region [Ob 18 (.mov (.t 2)),Ob 19 (.mov (.t 8)),Ob 20 (.idx (.t 18) (.t 19) 1),Ob 21 (.load (.t 20) none),Ob 22 (.bin .gtr (.t 21) (Ci 0))])
 (.cond (.t 22) (.region [Ob 23 (.mov (.t 7)),Ob 24 (.addr (.t 3) 0),Ob 25 (.load (.t 24) none),Ob 26 (.mov (.t 8)),Ob 27 (.idx (.t 25) (.t 26) 1),Ob 28 (.load (.t 27) none),Ob 29 (.bin .add (.t 23) (.t 28)),Ob 7 (.mov (.t 29))])
 (.skip))))
 (.region [Ob 16 (.mov (.t 8)),Ob 17 (.bin .add (.t 16) (Ci 1)),Ob 8 (.mov (.t 17))]))))))
 (.seq (.seq (.region [Ob 9 (.mov (Ci 0))])
 (.block 2 (.loop (.seq (.seq (.region [Ob 30 (.mov (.t 9)),Ob 31 (.addr (.t 3) 1),Ob 32 (.load (.t 31) none),Ob 33 (.len (.t 32)),Ob 34 (.bin .lss (.t 30) (.t 33))])
 (.cond (.t 34) (.skip)
 (.exit 2)))
 (.seq (.block 3 (.seq (.region [Ob 37 (.addr (.t 3) 1),Ob 38 (.load (.t 37) none),Ob 39 (.mov (.t 9)),Ob 40 (.idx (.t 38) (.t 39) 4),Ob 41 (.load (.t 40) (some 4)),Ob 10 (.new (.agg [(.int .i64 0), (.int .i64 0), (.int .i64 0), (.int .i64 0)]) 4),On (.store (.t 10) (.t 41) 4)])
 (.seq (.region [Ob 42 (.mov (.t 2)),Ob 43 (.addr (.t 10) 0),Ob 44 (.load (.t 43) none),Ob 45 (.idx (.t 42) (.t 44) 1),Ob 46 (.load (.t 45) none),Ob 11 (.mov (.t 46))])
 (.block 4 (.loop (.seq (.seq (.region [Ob 47 (.mov (.t 11)),Ob 48 (.addr (.t 10) 3),Ob 49 (.load (.t 48) none),Ob 50 (.bin .add (.t 47) (.t 49)),Ob 51 (.mov (.t 1)),Ob 52 (.bin .leq (.t 50) (.t 51))])
 (.cond (.t 52) (.skip)
 (.exit 4)))
 (.seq (.block 5 (.seq (.region [Ob 55 (.addr (.t 10) 1),Ob 56 (.load (.t 55) none),Ob 57 (.bin .eql (.t 56) (Ci (-1))),Ob 58 (.mov (.t 57)),Og 59 58 false (.mov (.t 11)),Og 60 58 false (.addr (.t 10) 3),Og 61 58 false (.load (.t 60) none),Og 62 58 false (.bin .add (.t 59) (.t 61)),Og 63 58 false (.mov (.t 2)),Og 64 58 false (.addr (.t 10) 1),Og 65 58 false (.load (.t 64) none),Og 66 58 false (.idx (.t 63) (.t 65) 1),Og 67 58 false (.load (.t 66) none),Og 68 58 false (.bin .lss (.t 62) (.t 67)),Ob 69 (.pick (.t 58) (.c (.bool true)) (.t 68))])
 (.cond (.t 69) (.region [Ob 70 (.mov (.t 7)),Ob 71 (.addr (.t 10) 2),Ob 72 (.load (.t 71) none),Ob 73 (.bin .add (.t 70) (.t 72)),Ob 7 (.mov (.t 73))])
 (.skip))))
 (.region [Ob 53 (.mov (.t 11)),Ob 54 (.bin .add (.t 53) (Ci 1)),Ob 11 (.mov (.t 54))]))))))))
 (.region [Ob 35 (.mov (.t 9)),Ob 36 (.bin .add (.t 35) (Ci 1)),Ob 9 (.mov (.t 36))]))))))
 (.seq (.region [Ob 74 (.mov (.t 7)),Ob 6 (.mov (.t 74))])
 (.ret)))))
def r28 : List Res := [.t 6]
def a28 : AFn := ⟨3, c28, r28,.v⟩

def c29 : ACode := .seq (.region [Ob 1 (.box (.t 0) 2),Ob 2 (.mov (Ci 0)),Ob 3 (.mov (Ci 0))])
 (.seq (.seq (.region [Ob 6 (.load (.t 1) (some 2)),Ob 7 (.call 14 [(.t 6)]),Ob 4 (.mov (.t 7))])
 (.seq (.region [Ob 8 (.mov (.t 4)),Ob 9 (.bin .neq (.t 8) (Ci 0))])
 (.cond (.t 9) (.seq (.region [Ob 10 (.mov (.t 4)),Ob 2 (.mov (Ci 0)),Ob 3 (.mov (.t 10))])
 (.ret))
 (.skip))))
 (.seq (.region [Ob 11 (.clo 51 [] [(.t 1)]),Ob 12 (.call 50 [(Ci 61), (.t 11)]),Ob 5 (.mov (.t 12))])
 (.seq (.seq (.region [Ob 13 (.mov (.t 5)),Ob 14 (.bin .gtr (.t 13) (Ci 60))])
 (.cond (.t 14) (.seq (.region [Ob 2 (.mov (Ci 0)),Ob 3 (.mov (Ci 3))])
 (.ret))
 (.skip)))
 (.seq (.region [Ob 15 (.mov (.t 5)),Ob 2 (.mov (.t 15)),Ob 3 (.mov (Ci 0))])
 (.ret)))))
def r29 : List Res := [.t 2,.t 3]
def a29 : AFn := ⟨1, c29, r29,.v⟩

def c30 : ACode := .seq (.region [Ob 1 (.box (.t 0) 2),Ob 2 (.mov (Ci 0)),Ob 3 (.mov (Ci 0))])
 (.seq (.seq (.region [Ob 5 (.load (.t 1) (some 2)),Ob 6 (.call 15 [(.t 5)]),Ob 7 (.bin .neq (.t 6) (Ci 0))])
 (.cond (.t 7) (.seq (.region [Ob 2 (.mov (Ci 0)),Ob 3 (.mov (Ci 110))])
 (.ret))
 (.skip)))
 (.seq (.seq (.region [Ob 8 (.load (.t 1) (some 2)),Ob 9 (.call 47 [(.t 8), (Ci 60)]),Ob 10 (.load (.t 1) (some 2)),Ob 11 (.call 36 [(.t 10)]),Ob 12 (.bin .lss (.t 9) (.t 11))])
 (.cond (.t 12) (.seq (.region [Ob 2 (.mov (Ci 0)),Ob 3 (.mov (Ci 3))])
 (.ret))
 (.skip)))
 (.seq (.region [Ob 4 (.mov (Ci 0))])
 (.seq (.block 0 (.loop (.seq (.seq (.region [Ob 13 (.load (.t 1) (some 2)),Ob 14 (.mov (.t 4)),Ob 15 (.call 47 [(.t 13), (.t 14)]),Ob 16 (.load (.t 1) (some 2)),Ob 17 (.call 36 [(.t 16)]),Ob 18 (.bin .lss (.t 15) (.t 17))])
 (.cond (.t 18) (.skip)
 (.exit 0)))
 (.block 1 (.region [Ob 19 (.mov (.t 4)),Ob 20 (.bin .add (.t 19) (Ci 1)),Ob 4 (.mov (.t 20))])))))
 (.seq (.region [Ob 21 (.mov (.t 4)),Ob 2 (.mov (.t 21)),Ob 3 (.mov (Ci 0))])
 (.ret))))))
def r30 : List Res := [.t 2,.t 3]
def a30 : AFn := ⟨1, c30, r30,.v⟩

def c31 : ACode := .seq (.region [Ob 2 (.box (.t 0) 2),Ob 4 (.new (.agg [(.sl [] .tight), (.sl [] .tight)]) 2),Ob 5 (.mov (Ci 0))])
 (.seq (.seq (.region [Ob 7 (.load (.t 2) (some 2)),Ob 8 (.call 14 [(.t 7)]),Ob 6 (.mov (.t 8))])
 (.seq (.region [Ob 9 (.mov (.t 6)),Ob 10 (.bin .neq (.t 9) (Ci 0))])
 (.cond (.t 10) (.seq (.region [Ob 11 (.build [(.sl [] .tight), (.sl [] .tight)] []),Ob 12 (.mov (.t 6)),On (.store (.t 4) (.t 11) 2),Ob 5 (.mov (.t 12))])
 (.ret))
 (.skip))))
 (.seq (.seq (.region [Ob 13 (.mov (.t 1)),Ob 14 (.addr (.t 2) 1),Ob 15 (.load (.t 14) none),Ob 16 (.len (.t 15)),Ob 17 (.bin .sub (.t 16) (Ci 1)),Ob 18 (.call 53 [(.t 13), (Ci 0), (.t 17)]),Ob 19 (.not (.t 18))])
 (.cond (.t 19) (.seq (.region [Ob 20 (.build [(.sl [] .tight), (.sl [] .tight)] []),On (.store (.t 4) (.t 20) 2),Ob 5 (.mov (Ci 1))])
 (.ret))
 (.skip)))
 (.seq (.region [Ob 21 (.load (.t 2) (some 2)),Ob 22 (.mov (.t 1)),Ob 23 (.call 54 [(.t 21), (.t 22)]),On (.store (.t 4) (.t 23) 2),Ob 5 (.mov (Ci 0))])
 (.ret))))
def r31 : List Res := [.cell 4 (some 2),.t 5]
def a31 : AFn := ⟨2, c31, r31,.v⟩

def c32 : ACode := .seq (.region [Ob 2 (.box (.t 0) 2),Ob 4 (.new (.agg [(.sl [] .tight), (.sl [] .tight)]) 2),Ob 5 (.mov (Ci 0))])
 (.seq (.seq (.region [Ob 6 (.load (.t 2) (some 2)),Ob 7 (.call 15 [(.t 6)]),Ob 8 (.bin .neq (.t 7) (Ci 0))])
 (.cond (.t 8) (.seq (.region [Ob 9 (.build [(.sl [] .tight), (.sl [] .tight)] []),On (.store (.t 4) (.t 9) 2),Ob 5 (.mov (Ci 110))])
 (.ret))
 (.skip)))
 (.seq (.seq (.region [Ob 10 (.mov (.t 1)),Ob 11 (.addr (.t 2) 1),Ob 12 (.load (.t 11) none),Ob 13 (.len (.t 12)),Ob 14 (.bin .sub (.t 13) (Ci 1)),Ob 15 (.call 39 [(.t 10), (Ci 0), (.t 14)]),Ob 16 (.not (.t 15))])
 (.cond (.t 16) (.seq (.region [Ob 17 (.build [(.sl [] .tight), (.sl [] .tight)] []),On (.store (.t 4) (.t 17) 2),Ob 5 (.mov (Ci 1))])
 (.ret))
 (.skip)))
 (.seq (.region [Ob 18 (.load (.t 2) (some 2)),Ob 19 (.mov (.t 1)),Ob 20 (.call 55 [(.t 18), (.t 19)]),On (.store (.t 4) (.t 20) 2),Ob 5 (.mov (Ci 0))])
 (.ret))))
def r32 : List Res := [.cell 4 (some 2),.t 5]
def a32 : AFn := ⟨2, c32, r32,.v⟩

def c33 : ACode := .seq (.region [Ob 2 (.box (.t 0) 2),Ob 4 (.mov (.c (.sl [] .tight))),Ob 5 (.mov (Ci 0))])
 (.seq (.seq (.region [Ob 9 (.load (.t 2) (some 2)),Ob 10 (.mov (.t 1)),Ob 11 (.call 40 [(.t 9), (.t 10)]),Ob 6 (.mov (.t 11))])
 (.seq (.region [Ob 12 (.mov (.t 6)),Ob 13 (.bin .neq (.t 12) (Ci 0))])
 (.cond (.t 13) (.seq (.region [Ob 14 (.mov (.t 6)),Ob 4 (.mov (.c (.sl [] .tight))),Ob 5 (.mov (.t 14))])
 (.ret))
 (.skip))))
 (.seq (.region [Ob 7 (.mov (.c (.sl [] .tight)))])
 (.seq (.seq (.region [Ob 15 (.addr (.t 2) 1),Ob 16 (.load (.t 15) none),Ob 17 (.len (.t 16)),Ob 18 (.mov (Ci 0))])
 (.block 0 (.loop (.seq (.region [Ob 19 (.bin .lss (.t 18) (.t 17))])
 (.seq (.cond (.t 19) (.skip)
 (.exit 0))
 (.seq (.block 1 (.seq (.region [Ob 20 (.mov (.t 18)),Ob 8 (.mov (.t 20))])
 (.seq (.region [Ob 21 (.load (.t 2) (some 2)),Ob 22 (.mov (.t 8)),Ob 23 (.call 54 [(.t 21), (.t 22)]),Ob 24 (.mov (.t 1)),Ob 25 (.call 52 [(.t 23), (.t 24)]),Ob 26 (.not (.t 25))])
 (.cond (.t 26) (.region [Ob 27 (.mov (.t 7)),Ob 28 (.mov (.t 8)),Ob 29 (.lit false 3 1 [(.t 28)]),Ob 30 (.app false (.t 27) (.t 29) 3 1 8),Ob 7 (.mov (.t 30))])
 (.skip)))))
 (.region [Ob 31 (.bin .add (.t 18) (Ci 1)),Ob 18 (.mov (.t 31))])))))))
 (.seq (.region [Ob 32 (.mov (.t 7)),Ob 4 (.mov (.t 32)),Ob 5 (.mov (Ci 0))])
 (.ret)))))
def r33 : List Res := [.t 4,.t 5]
def a33 : AFn := ⟨2, c33, r33,.v⟩

def c34 : ACode := .seq (.region [Ob 2 (.box (.t 0) 2),Ob 4 (.mov (.c (.sl [] .tight))),Ob 5 (.mov (Ci 0))])
 (.seq (.seq (.region [Ob 9 (.load (.t 2) (some 2)),Ob 10 (.mov (.t 1)),Ob 11 (.call 44 [(.t 9), (.t 10)]),Ob 6 (.mov (.t 11))])
 (.seq (.region [Ob 12 (.mov (.t 6)),Ob 13 (.bin .neq (.t 12) (Ci 0))])
 (.cond (.t 13) (.seq (.region [Ob 14 (.mov (.t 6)),Ob 4 (.mov (.c (.sl [] .tight))),Ob 5 (.mov (.t 14))])
 (.ret))
 (.skip))))
 (.seq (.region [Ob 7 (.mov (.c (.sl [] .tight)))])
 (.seq (.seq (.region [Ob 8 (.mov (Ci 0))])
 (.block 0 (.loop (.seq (.seq (.region [Ob 15 (.mov (.t 8)),Ob 16 (.addr (.t 2) 1),Ob 17 (.load (.t 16) none),Ob 18 (.len (.t 17)),Ob 19 (.bin .lss (.t 15) (.t 18))])
 (.cond (.t 19) (.skip)
 (.exit 0)))
 (.seq (.block 1 (.seq (.region [Ob 22 (.load (.t 2) (some 2)),Ob 23 (.mov (.t 8)),Ob 24 (.call 55 [(.t 22), (.t 23)]),Ob 25 (.mov (.t 1)),Ob 26 (.call 47 [(.t 24), (.t 25)]),Ob 27 (.load (.t 2) (some 2)),Ob 28 (.call 36 [(.t 27)]),Ob 29 (.bin .lss (.t 26) (.t 28))])
 (.cond (.t 29) (.region [Ob 30 (.mov (.t 7)),Ob 31 (.mov (.t 8)),Ob 32 (.lit false 3 1 [(.t 31)]),Ob 33 (.app false (.t 30) (.t 32) 3 1 8),Ob 7 (.mov (.t 33))])
 (.skip))))
 (.region [Ob 20 (.mov (.t 8)),Ob 21 (.bin .add (.t 20) (Ci 1)),Ob 8 (.mov (.t 21))]))))))
 (.seq (.region [Ob 34 (.mov (.t 7)),Ob 4 (.mov (.t 34)),Ob 5 (.mov (Ci 0))])
 (.ret)))))
def r34 : List Res := [.t 4,.t 5]
def a34 : AFn := ⟨2, c34, r34,.v⟩

def c35 : ACode := .seq (.region [Ob 2 (.box (.t 0) 2),Ob 4 (.mov (.c (.bool false)))])
 (.seq (.region [Ob 5 (.load (.t 2) (some 2)),Ob 6 (.call 19 [(.t 5)]),Ob 7 (.not (.t 6)),Ob 8 (.mov (.t 7)),Og 9 8 true (.mov (.t 1)),Og 10 8 true (.call 20 [(.t 9)]),Og 11 8 true (.not (.t 10)),Ob 12 (.pick (.t 8) (.t 11) (.c (.bool false))),Ob 13 (.mov (.t 12)),Og 14 13 true (.load (.t 2) (some 2)),Og 15 13 true (.call 15 [(.t 14)]),Og 16 13 true (.bin .eql (.t 15) (Ci 0)),Ob 17 (.pick (.t 13) (.t 16) (.c (.bool false))),Ob 18 (.mov (.t 17)),Og 19 18 true (.mov (.t 1)),Og 20 18 true (.bin .geq (.t 19) (Ci 0)),Ob 21 (.pick (.t 18) (.t 20) (.c (.bool false))),Ob 22 (.mov (.t 21)),Og 23 22 true (.mov (.t 1)),Og 24 22 true (.bin .leq (.t 23) (Ci 60)),Ob 25 (.pick (.t 22) (.t 24) (.c (.bool false))),Ob 4 (.mov (.t 25))])
 (.ret))
def r35 : List Res := [.t 4]
def a35 : AFn := ⟨2, c35, r35,.v⟩

def c36 : ACode := .seq (.region [Ob 1 (.box (.t 0) 2),Ob 2 (.mov (Ci 0))])
 (.seq (.region [Ob 3 (.mov (Ci 0))])
 (.seq (.seq (.region [Ob 4 (.mov (Ci 0))])
 (.block 0 (.loop (.seq (.seq (.region [Ob 5 (.mov (.t 4)),Ob 6 (.addr (.t 1) 0),Ob 7 (.load (.t 6) none),Ob 8 (.len (.t 7)),Ob 9 (.bin .lss (.t 5) (.t 8))])
 (.cond (.t 9) (.skip)
 (.exit 0)))
 (.seq (.block 1 (.region [Ob 12 (.mov (.t 3)),Ob 13 (.addr (.t 1) 0),Ob 14 (.load (.t 13) none),Ob 15 (.mov (.t 4)),Ob 16 (.idx (.t 14) (.t 15) 1),Ob 17 (.load (.t 16) none),Ob 18 (.bin .add (.t 12) (.t 17)),Ob 3 (.mov (.t 18))]))
 (.region [Ob 10 (.mov (.t 4)),Ob 11 (.bin .add (.t 10) (Ci 1)),Ob 4 (.mov (.t 11))]))))))
 (.seq (.region [Ob 19 (.mov (.t 3)),Ob 2 (.mov (.t 19))])
 (.ret))))
def r36 : List Res := [.t 2]
def a36 : AFn := ⟨1, c36, r36,.v⟩

def c37 : ACode := .seq (.region [Ob 0 (.new (.agg [(.sl [] .tight), (.sl [] .tight)]) 2)])
 (.seq (.region [Ob 1 (.lit false 3 1 [(Ci 5), (Ci 4)]),Ob 2 (.build [(.int .i64 0), (.int .i64 0), (.int .i64 0), (.int .i64 0)] [(0, 1, (Ci 0)), (1, 1, (Ci 1)), (2, 1, (Ci 2)), (3, 1, (Ci 1))]),Ob 3 (.build [(.int .i64 0), (.int .i64 0), (.int .i64 0), (.int .i64 0)] [(0, 1, (Ci 0)), (1, 1, (Ci (-1))), (2, 1, (Ci 1)), (3, 1, (Ci 2))]),Ob 4 (.build [(.int .i64 0), (.int .i64 0), (.int .i64 0), (.int .i64 0)] [(0, 1, (Ci 1)), (1, 1, (Ci (-1))), (2, 1, (Ci 3)), (3, 1, (Ci 1))]),Ob 5 (.build [(.int .i64 0), (.int .i64 0), (.int .i64 0), (.int .i64 0)] [(0, 1, (Ci 1)), (1, 1, (Ci 0)), (2, 1, (Ci 1)), (3, 1, (Ci 1))]),Ob 6 (.lit false 52 4 [(.t 2), (.t 3), (.t 4), (.t 5)]),Ob 7 (.build [(.sl [] .tight), (.sl [] .tight)] [(0, 1, (.t 1)), (1, 1, (.t 6))]),On (.store (.t 0) (.t 7) 2)])
 (.ret))
def r37 : List Res := [.cell 0 (some 2)]
def a37 : AFn := ⟨0, c37, r37,.v⟩

def c38 : ACode := .seq (.region [Ob 1 (.box (.t 0) 2),Ob 2 (.mov (.c (.bool false)))])
 (.seq (.region [Ob 5 (.clo 56 [] [(.t 1)]),Ob 3 (.mov (.t 5))])
 (.seq (.region [Ob 4 (.mov (.c (.fn 58 [] [])))])
 (.seq (.region [Ob 6 (.addr (.t 1) 0),Ob 7 (.load (.t 6) none),Ob 8 (.len (.t 7)),Ob 9 (.call 53 [(.t 8), (Ci 1), (Ci 6)]),Ob 10 (.mov (.t 9)),Og 11 10 true (.addr (.t 1) 0),Og 12 10 true (.load (.t 11) none),Og 13 10 true (.mov (.t 4)),Og 14 10 true (.call 59 [(.t 12), (.t 13)]),Og 15 10 true (.not (.t 14)),Ob 16 (.pick (.t 10) (.t 15) (.c (.bool false))),Ob 17 (.mov (.t 16)),Og 18 17 true (.addr (.t 1) 1),Og 19 17 true (.load (.t 18) none),Og 20 17 true (.len (.t 19)),Og 21 17 true (.bin .leq (.t 20) (Ci 12)),Ob 22 (.pick (.t 17) (.t 21) (.c (.bool false))),Ob 23 (.mov (.t 22)),Og 24 23 true (.addr (.t 1) 1),Og 25 23 true (.load (.t 24) none),Og 26 23 true (.mov (.t 3)),Og 27 23 true (.call 60 [(.t 25), (.t 26)]),Og 28 23 true (.not (.t 27)),Ob 29 (.pick (.t 23) (.t 28) (.c (.bool false))),Ob 2 (.mov (.t 29))])
 (.ret))))
def r38 : List Res := [.t 2]
def a38 : AFn := ⟨1, c38, r38,.v⟩

def c39 : ACode := .seq (.region [Ob 6 (.mov (.c (.bool false)))])
 (.seq (.region [Ob 7 (.mov (.t 0)),Ob 8 (.mov (.t 1)),Ob 9 (.bin .geq (.t 7) (.t 8)),Ob 10 (.mov (.t 9)),Og 11 10 true (.mov (.t 0)),Og 12 10 true (.mov (.t 2)),Og 13 10 true (.bin .leq (.t 11) (.t 12)),Ob 14 (.pick (.t 10) (.t 13) (.c (.bool false))),Ob 6 (.mov (.t 14))])
 (.ret))
def r39 : List Res := [.t 6]
def a39 : AFn := ⟨3, c39, r39,.v⟩

def c40 : ACode := .seq (.region [Ob 2 (.box (.t 0) 2),Ob 4 (.mov (Ci 0))])
 (.seq (.block 0 (.seq (.region [Ob 6 (.load (.t 2) (some 2)),Ob 7 (.call 38 [(.t 6)]),Ob 8 (.not (.t 7)),Ob 5 (.mov (.t 8))])
 (.cond (.t 5) (.seq (.region [Ob 4 (.mov (Ci 110))])
 (.ret))
 (.seq (.region [Ob 10 (.mov (.t 1)),Ob 11 (.call 53 [(.t 10), (Ci 0), (Ci 60)]),Ob 12 (.not (.t 11)),Ob 9 (.mov (.t 12))])
 (.cond (.t 9) (.seq (.region [Ob 4 (.mov (Ci 1))])
 (.ret))
 (.skip))))))
 (.seq (.region [Ob 4 (.mov (Ci 0))])
 (.ret)))
def r40 : List Res := [.t 4]
def a40 : AFn := ⟨2, c40, r40,.v⟩

def c41 : ACode := .seq (.region [Ob 2 (.box (.t 0) 2),Ob 4 (.new (.agg [(.sl [] .tight), (.sl [] .tight), (.int .i64 0),.nilm]) 4)])
 (.seq (.region [Ob 5 (.load (.t 2) (some 2)),Ob 6 (.mov (.t 1)),Ob 7 (.mkmap (.n 2)),Ob 8 (.build [(.sl [] .tight), (.sl [] .tight), (.int .i64 0),.nilm] [(0, 2, (.t 5)), (2, 1, (.t 6)), (3, 1, (.t 7))]),On (.store (.t 4) (.t 8) 4)])
 (.ret))
def r41 : List Res := [.cell 4 (some 4)]
def a41 : AFn := ⟨2, c41, r41,.r⟩

def c42 : ACode := .seq (.region [Ob 2 (.box (.t 0) 4),Ob 4 (.mov (.c (.bool false)))])
 (.seq (.seq (.region [Ob 7 (.mov (.t 1)),Ob 8 (.len (.t 7)),Ob 9 (.mov (Ci 0))])
 (.block 0 (.loop (.seq (.region [Ob 10 (.bin .lss (.t 9) (.t 8))])
 (.seq (.cond (.t 10) (.skip)
 (.exit 0))
 (.seq (.block 1 (.seq (.region [Ob 11 (.idx (.t 7) (.t 9) 3),Ob 12 (.load (.t 11) (some 3)),Ob 6 (.new (.agg [(.int .i64 0), (.int .i64 0), (.int .i64 0)]) 3),On (.store (.t 6) (.t 12) 3)])
 (.seq (.region [Ob 13 (.load (.t 2) (some 4)),Ob 14 (.load (.t 6) (some 3)),Ob 15 (.call 61 [(.t 13), (.t 14)]),Ob 16 (.not (.t 15))])
 (.cond (.t 16) (.seq (.region [Ob 4 (.mov (.c (.bool false)))])
 (.ret))
 (.skip)))))
 (.region [Ob 17 (.bin .add (.t 9) (Ci 1)),Ob 9 (.mov (.t 17))])))))))
 (.seq (.region [Ob 18 (.load (.t 2) (some 4)),Ob 19 (.call 62 [(.t 18)]),Ob 4 (.mov (.t 19))])
 (.ret)))
def r42 : List Res := [.t 4]
def a42 : AFn := ⟨2, c42, r42,.r⟩

def c43 : ACode := .seq (.region [Ob 1 (.box (.t 0) 4),Ob 2 (.mov (Ci 0))])
 (.seq (.region [Ob 3 (.mov (Ci 0))])
 (.seq (.seq (.region [Ob 7 (.addr (.t 1) 0),Ob 8 (.addr (.t 7) 1),Ob 9 (.load (.t 8) none),Ob 10 (.len (.t 9)),Ob 11 (.mov (Ci 0))])
 (.block 0 (.loop (.seq (.region [Ob 12 (.bin .lss (.t 11) (.t 10))])
 (.seq (.cond (.t 12) (.skip)
 (.exit 0))
 (.seq (.block 1 (.seq (.region [Ob 13 (.mov (.t 11)),Ob 14 (.idx (.t 9) (.t 11) 4),Ob 15 (.load (.t 14) (some 4)),Ob 5 (.new (.agg [(.int .i64 0), (.int .i64 0), (.int .i64 0), (.int .i64 0)]) 4),Ob 4 (.mov (.t 13)),On (.store (.t 5) (.t 15) 4)])
 (.seq (.region [Ob 16 (.addr (.t 1) 2),Ob 17 (.load (.t 16) none),Ob 18 (.mov (Ci 0))])
 (.block 2 (.loop (.seq (.region [Ob 19 (.bin .lss (.t 18) (.t 17))])
 (.seq (.cond (.t 19) (.skip)
 (.exit 2))
 (.seq (.block 3 (.seq (.region [Ob 20 (.mov (.t 18)),Ob 6 (.mov (.t 20))])
 (.seq (.region [Ob 21 (.addr (.t 5) 1),Ob 22 (.load (.t 21) none),Ob 23 (.bin .eql (.t 22) (Ci (-1)))])
 (.cond (.t 23) (.region [Ob 24 (.mov (.t 3)),Ob 25 (.addr (.t 1) 3),Ob 26 (.load (.t 25) none),Ob 27 (.mov (.t 4)),Ob 28 (.mov (.t 6)),Ob 29 (.build [(.int .i64 0), (.int .i64 0)] [(0, 1, (.t 27)), (1, 1, (.t 28))]),Ob 30 (.mget (.n 2) (.int .i64 0) false (.t 26) (.t 29)),Ob 31 (.bin .add (.t 24) (.t 30)),Ob 3 (.mov (.t 31))])
 (.skip)))))
 (.region [Ob 32 (.bin .add (.t 18) (Ci 1)),Ob 18 (.mov (.t 32))])))))))))
 (.region [Ob 33 (.bin .add (.t 11) (Ci 1)),Ob 11 (.mov (.t 33))])))))))
 (.seq (.region [Ob 34 (.mov (.t 3)),Ob 2 (.mov (.t 34))])
 (.ret))))
def r43 : List Res := [.t 2]
def a43 : AFn := ⟨1, c43, r43,.r⟩

def c44 : ACode := .seq (.region [Ob 2 (.box (.t 0) 2),Ob 4 (.mov (Ci 0))])
 (.seq (.seq (.region [Ob 5 (.load (.t 2) (some 2)),Ob 6 (.call 15 [(.t 5)]),Ob 7 (.bin .neq (.t 6) (Ci 0))])
 (.cond (.t 7) (.seq (.region [Ob 4 (.mov (Ci 110))])
 (.ret))
 (.skip)))
 (.seq (.seq (.region [Ob 8 (.mov (.t 1)),Ob 9 (.call 39 [(.t 8), (Ci 0), (Ci 60)]),Ob 10 (.not (.t 9))])
 (.cond (.t 10) (.seq (.region [Ob 4 (.mov (Ci 1))])
 (.ret))
 (.skip)))
 (.seq (.region [Ob 4 (.mov (Ci 0))])
 (.ret))))
def r44 : List Res := [.t 4]
def a44 : AFn := ⟨2, c44, r44,.v⟩

def c45 : ACode := .seq (.region [Ob 2 (.box (.t 0) 2),Ob 4 (.mov (Ci 0))])
 (.seq (.region [Ob 5 (.mov (Ci 0))])
 (.seq (.seq (.region [Ob 6 (.mov (Ci 0))])
 (.block 0 (.loop (.seq (.seq (.region [Ob 7 (.mov (.t 6)),Ob 8 (.mov (.t 1)),Ob 9 (.len (.t 8)),Ob 10 (.bin .lss (.t 7) (.t 9))])
 (.cond (.t 10) (.skip)
 (.exit 0)))
 (.seq (.block 1 (.seq (.region [Ob 13 (.addr (.t 2) 1),Ob 14 (.load (.t 13) none),Ob 15 (.mov (.t 1)),Ob 16 (.mov (.t 6)),Ob 17 (.idx (.t 15) (.t 16) 3),Ob 18 (.addr (.t 17) 1),Ob 19 (.load (.t 18) none),Ob 20 (.idx (.t 14) (.t 19) 4),Ob 21 (.addr (.t 20) 1),Ob 22 (.load (.t 21) none),Ob 23 (.bin .eql (.t 22) (Ci (-1)))])
 (.cond (.t 23) (.region [Ob 24 (.mov (.t 5)),Ob 25 (.mov (.t 1)),Ob 26 (.mov (.t 6)),Ob 27 (.idx (.t 25) (.t 26) 3),Ob 28 (.addr (.t 27) 2),Ob 29 (.load (.t 28) none),Ob 30 (.bin .add (.t 24) (.t 29)),Ob 5 (.mov (.t 30))])
 (.skip))))
 (.region [Ob 11 (.mov (.t 6)),Ob 12 (.bin .add (.t 11) (Ci 1)),Ob 6 (.mov (.t 12))]))))))
 (.seq (.region [Ob 31 (.mov (.t 5)),Ob 4 (.mov (.t 31))])
 (.ret))))
def r45 : List Res := [.t 4]
def a45 : AFn := ⟨2, c45, r45,.v⟩

def c46 : ACode := .seq (.region [Ob 2 (.box (.t 0) 2),Ob 4 (.new (.agg [(.sl [] .tight), (.sl [] .tight), (.int .i64 0),.nilm, (.sl [] .tight), (.sl [] .tight)]) 6)])
 (.seq (.region [Ob 6 (.load (.t 2) (some 2)),Ob 7 (.mov (.t 1)),Ob 8 (.call 63 [(.t 6), (.t 7)]),Ob 5 (.new (.agg [(.sl [] .tight), (.sl [] .tight), (.int .i64 0),.nilm, (.sl [] .tight), (.sl [] .tight)]) 6),On (.store (.t 5) (.t 8) 6)])
 (.seq (.block 0 (.loop (.seq (.seq (.seq (.frzs 5)
 (.regionD [Ob 9 (.load (.t 5) (some 6)),Ob 10 (.addr (.t 5) 0),Ob 11 (.load (.t 10) (some 4)),Ob 12 (.call 65 [(.t 11)]),Ob 13 (.call 64 [(.t 9), (Ci 0), (.t 12)]),Ob 14 (.bin .gtr (.t 13) (Ci 0))] [(5, 5)]))
 (.cond (.t 14) (.skip)
 (.exit 0)))
 (.block 1 (.region [Ob 15 (.addr (.t 5) 5),Ob 16 (.load (.t 15) none),On (.clr (.t 16) (.bool false) 1)])))))
 (.seq (.region [Ob 17 (.load (.t 5) (some 6)),On (.store (.t 4) (.t 17) 6)])
 (.ret))))
def r46 : List Res := [.cell 4 (some 6)]
def a46 : AFn := ⟨2, c46, r46,.r⟩

def c47 : ACode := .seq (.region [Ob 2 (.box (.t 0) 2),Ob 4 (.mov (Ci 0))])
 (.seq (.region [Ob 12 (.load (.t 2) (some 2)),Ob 13 (.mov (.t 1)),Ob 14 (.call 66 [(.t 12), (.t 13)]),Ob 11 (.mov (.t 14)),Ob 15 (.ext (.t 11) 0),Ob 16 (.ext (.t 11) 1),Ob 5 (.mov (.t 15)),Ob 6 (.mov (.t 16))])
 (.seq (.region [Ob 7 (.mov (Ci 0))])
 (.block 0 (.loop (.seq (.block 1 (.seq (.region [Ob 20 (.mov (.t 5)),Ob 21 (.mov (.t 6)),Ob 22 (.call 67 [(.t 20), (.t 21)]),Ob 19 (.mov (.t 22)),Ob 23 (.ext (.t 19) 0),Ob 24 (.ext (.t 19) 1),Ob 8 (.mov (.t 23)),Ob 9 (.mov (.t 24))])
 (.seq (.seq (.region [Ob 25 (.mov (.t 9)),Ob 26 (.not (.t 25))])
 (.cond (.t 26) (.seq (.region [Ob 27 (.mov (.t 7)),Ob 4 (.mov (.t 27))])
 (.ret))
 (.skip)))
 (.seq (.region [Ob 10 (.mov (Ci 0))])
 (.block 2 (.loop (.seq (.seq (.region [Ob 28 (.mov (.t 10)),Ob 29 (.mov (.t 8)),Ob 30 (.len (.t 29)),Ob 31 (.bin .lss (.t 28) (.t 30))])
 (.cond (.t 31) (.skip)
 (.exit 2)))
 (.seq (.block 3 (.seq (.region [Ob 34 (.mov (.t 5)),Ob 35 (.mov (.t 8)),Ob 36 (.mov (.t 10)),Ob 37 (.idx (.t 35) (.t 36) 1),Ob 38 (.load (.t 37) none),Ob 39 (.idx (.t 34) (.t 38) 3),Ob 40 (.addr (.t 39) 2),Ob 41 (.load (.t 40) none),Ob 42 (.bin .sub (.t 41) (Ci 1)),Ob 43 (.idx (.t 34) (.t 38) 3),Ob 44 (.addr (.t 43) 2),On (.store (.t 44) (.t 42) 1)])
 (.region [Ob 45 (.mov (.t 5)),Ob 46 (.mov (.t 8)),Ob 47 (.mov (.t 10)),Ob 48 (.idx (.t 46) (.t 47) 1),Ob 49 (.load (.t 48) none),Ob 50 (.bin .xor (.t 49) (Ci 1)),Ob 51 (.idx (.t 45) (.t 50) 3),Ob 52 (.addr (.t 51) 2),Ob 53 (.load (.t 52) none),Ob 54 (.bin .add (.t 53) (Ci 1)),Ob 55 (.idx (.t 45) (.t 50) 3),Ob 56 (.addr (.t 55) 2),On (.store (.t 56) (.t 54) 1)])))
 (.region [Ob 32 (.mov (.t 10)),Ob 33 (.bin .add (.t 32) (Ci 1)),Ob 10 (.mov (.t 33))])))))))))
 (.region [Ob 17 (.mov (.t 7)),Ob 18 (.bin .add (.t 17) (Ci 1)),Ob 7 (.mov (.t 18))]))))))
def r47 : List Res := [.t 4]
def a47 : AFn := ⟨2, c47, r47,.v⟩

def c48 : ACode := .seq (.region [Ob 1 (.box (.t 0) 4),Ob 2 (.mov (.c (.sl [] .tight)))])
 (.seq (.region [Ob 3 (.mov (.c (.sl [] .tight)))])
 (.seq (.seq (.region [Ob 7 (.addr (.t 1) 2),Ob 8 (.load (.t 7) none),Ob 9 (.mov (Ci 0))])
 (.block 0 (.loop (.seq (.region [Ob 10 (.bin .lss (.t 9) (.t 8))])
 (.seq (.cond (.t 10) (.skip)
 (.exit 0))
 (.seq (.block 1 (.seq (.region [Ob 11 (.mov (.t 9)),Ob 4 (.mov (.t 11))])
 (.seq (.region [Ob 12 (.addr (.t 1) 0),Ob 13 (.addr (.t 12) 1),Ob 14 (.load (.t 13) none),Ob 15 (.len (.t 14)),Ob 16 (.mov (Ci 0))])
 (.block 2 (.loop (.seq (.region [Ob 17 (.bin .lss (.t 16) (.t 15))])
 (.seq (.cond (.t 17) (.skip)
 (.exit 2))
 (.seq (.block 3 (.seq (.region [Ob 18 (.mov (.t 16)),Ob 5 (.mov (.t 18))])
 (.seq (.region [Ob 19 (.addr (.t 1) 3),Ob 20 (.load (.t 19) none),Ob 21 (.mov (.t 5)),Ob 22 (.mov (.t 4)),Ob 23 (.build [(.int .i64 0), (.int .i64 0)] [(0, 1, (.t 21)), (1, 1, (.t 22))]),Ob 24 (.mget (.n 2) (.int .i64 0) false (.t 20) (.t 23)),Ob 6 (.mov (.t 24))])
 (.seq (.region [Ob 25 (.mov (.t 6)),Ob 26 (.bin .gtr (.t 25) (Ci 0))])
 (.cond (.t 26) (.region [Ob 27 (.mov (.t 3)),Ob 28 (.mov (.t 4)),Ob 29 (.mov (.t 5)),Ob 30 (.mov (.t 6)),Ob 31 (.build [(.int .i64 0), (.int .i64 0), (.int .i64 0)] [(0, 1, (.t 28)), (1, 1, (.t 29)), (2, 1, (.t 30))]),Ob 32 (.lit false 35 3 [(.t 31)]),Ob 33 (.app false (.t 27) (.t 32) 35 3 24),Ob 3 (.mov (.t 33))])
 (.skip))))))
 (.region [Ob 34 (.bin .add (.t 16) (Ci 1)),Ob 16 (.mov (.t 34))])))))))))
 (.region [Ob 35 (.bin .add (.t 9) (Ci 1)),Ob 9 (.mov (.t 35))])))))))
 (.seq (.region [Ob 36 (.mov (.t 3)),Ob 2 (.mov (.t 36))])
 (.ret))))
def r48 : List Res := [.t 2]
def a48 : AFn := ⟨1, c48, r48,.r⟩

def c49 : ACode := .seq (.region [Ob 1 (.boxf (.t 0) 6),Ob 2 (.mov (.c (.sl [] .tight)))])
 (.seq (.region [Ob 3 (.mov (.c (.sl [] .tight)))])
 (.seq (.seq (.region [Ob 6 (.addr (.t 1) 0),Ob 7 (.addr (.t 6) 0),Ob 8 (.addr (.t 7) 0),Ob 9 (.load (.t 8) none),Ob 10 (.len (.t 9)),Ob 11 (.mov (Ci 0))])
 (.block 0 (.loop (.seq (.region [Ob 12 (.bin .lss (.t 11) (.t 10))])
 (.seq (.cond (.t 12) (.skip)
 (.exit 0))
 (.seq (.block 1 (.seq (.region [Ob 13 (.mov (.t 11)),Ob 4 (.mov (.t 13))])
 (.seq (.region [Ob 5 (.mov (Ci 0))])
 (.seq (.block 2 (.loop (.seq (.seq (.regionD [Ob 14 (.mov (.t 5)),Ob 15 (.addr (.t 1) 0),Ob 16 (.addr (.t 15) 2),Ob 17 (.load (.t 16) none),Ob 18 (.bin .leq (.t 14) (.t 17)),Ob 19 (.mov (.t 18)),Og 20 19 true (.addr (.t 1) 5),Og 21 19 true (.load (.t 20) none),Og 22 19 true (.load (.t 1) (some 6)),Og 23 19 true (.mov (.t 4)),Og 24 19 true (.mov (.t 5)),Og 25 19 true (.call 68 [(.t 22), (.t 23), (.t 24)]),Og 26 19 true (.idx (.t 21) (.t 25) 1),Og 27 19 true (.load (.t 26) none),Og 28 19 true (.not (.t 27)),Ob 29 (.pick (.t 19) (.t 28) (.c (.bool false)))] [(1, 1), (20, 20)])
 (.cond (.t 29) (.skip)
 (.exit 2)))
 (.block 3 (.region [Ob 30 (.mov (.t 5)),Ob 31 (.bin .add (.t 30) (Ci 1)),Ob 5 (.mov (.t 31))])))))
 (.region [Ob 32 (.mov (.t 3)),Ob 33 (.mov (.t 5)),Ob 34 (.lit false 3 1 [(.t 33)]),Ob 35 (.app false (.t 32) (.t 34) 3 1 8),Ob 3 (.mov (.t 35))])))))
 (.region [Ob 36 (.bin .add (.t 11) (Ci 1)),Ob 11 (.mov (.t 36))])))))))
 (.seq (.region [Ob 37 (.mov (.t 3)),Ob 2 (.mov (.t 37))])
 (.ret))))
def r49 : List Res := [.t 2]
def a49 : AFn := ⟨1, c49, r49,.r⟩

def c50 : ACode := .seq (.region [Ob 4 (.mov (Ci 0))])
 (.seq (.region [Ob 8 (.mov (.t 0)),Ob 5 (.mov (Ci 0)),Ob 6 (.mov (.t 8))])
 (.seq (.block 0 (.loop (.seq (.seq (.region [Ob 9 (.mov (.t 5)),Ob 10 (.mov (.t 6)),Ob 11 (.bin .lss (.t 9) (.t 10))])
 (.cond (.t 11) (.skip)
 (.exit 0)))
 (.block 1 (.seq (.region [Ob 12 (.mov (.t 5)),Ob 13 (.mov (.t 6)),Ob 14 (.bin .add (.t 12) (.t 13)),Ob 15 (.conv .u64 (.t 14)),Ob 16 (.bin .shr (.t 15) (.c (.int .u64 1))),Ob 17 (.conv .i64 (.t 16)),Ob 7 (.mov (.t 17))])
 (.seq (.region [Ob 18 (.mov (.t 1)),Ob 19 (.mov (.t 7)),Ob 20 (.callv (.t 18) [(.t 19)]),Ob 21 (.not (.t 20))])
 (.cond (.t 21) (.region [Ob 22 (.mov (.t 7)),Ob 23 (.bin .add (.t 22) (Ci 1)),Ob 5 (.mov (.t 23))])
 (.region [Ob 24 (.mov (.t 7)),Ob 6 (.mov (.t 24))]))))))))
 (.seq (.region [Ob 25 (.mov (.t 5)),Ob 4 (.mov (.t 25))])
 (.ret))))
def r50 : List Res := [.t 4]
def a50 : AFn := ⟨2, c50, r50,.v⟩

def c51 : ACode := .seq (.region [Ob 3 (.mov (.c (.bool false)))])
 (.seq (.region [Ob 4 (.load (.t 1) (some 2)),Ob 5 (.mov (.t 0)),Ob 6 (.call 52 [(.t 4), (.t 5)]),Ob 3 (.mov (.t 6))])
 (.ret))
def r51 : List Res := [.t 3]
def a51 : AFn := ⟨2, c51, r51,.v⟩

def c52 : ACode := .seq (.region [Ob 2 (.box (.t 0) 2),Ob 4 (.mov (.c (.bool false)))])
 (.seq (.region [Ob 6 (.load (.t 2) (some 2)),Ob 7 (.mov (.t 1)),Ob 8 (.call 46 [(.t 6), (.t 7)]),Ob 5 (.new (.agg [(.sl [] .tight), (.sl [] .tight), (.int .i64 0),.nilm, (.sl [] .tight), (.sl [] .tight)]) 6),On (.store (.t 5) (.t 8) 6)])
 (.seq (.seq (.frzs 5)
 (.regionD [Ob 9 (.addr (.t 5) 0),Ob 10 (.load (.t 9) (some 4)),Ob 12 (.addr (.t 5) 0),Ob 13 (.load (.t 12) (some 4)),Ob 11 (.call 43 [(.t 10)]),Ob 14 (.call 65 [(.t 13)]),Ob 15 (.bin .eql (.t 11) (.t 14)),Ob 4 (.mov (.t 15))] [(5, 5), (12, 12)]))
 (.ret)))
def r52 : List Res := [.t 4]
def a52 : AFn := ⟨2, c52, r52,.v⟩

def c53 : ACode := .seq (.region [Ob 6 (.mov (.c (.bool false)))])
 (.seq (.region [Ob 7 (.mov (.t 1)),Ob 8 (.mov (.t 0)),Ob 9 (.bin .leq (.t 7) (.t 8)),Ob 10 (.mov (.t 9)),Og 11 10 true (.mov (.t 0)),Og 12 10 true (.mov (.t 2)),Og 13 10 true (.bin .leq (.t 11) (.t 12)),Ob 14 (.pick (.t 10) (.t 13) (.c (.bool false))),Ob 6 (.mov (.t 14))])
 (.ret))
def r53 : List Res := [.t 6]
def a53 : AFn := ⟨3, c53, r53,.v⟩

def c54 : ACode := .seq (.region [Ob 2 (.box (.t 0) 2),Ob 4 (.new (.agg [(.sl [] .tight), (.sl [] .tight)]) 2)])
 (.seq (.region [Ob 5 (.addr (.t 2) 0),Ob 6 (.load (.t 5) none),Ob 8 (.addr (.t 2) 1),Ob 9 (.load (.t 8) none),Ob 7 (.call 69 [(.t 6)]),Ob 11 (.addr (.t 2) 0),Ob 10 (.call 70 [(.t 9)]),On (.store (.t 11) (.t 7) 1),Ob 12 (.addr (.t 2) 1),On (.store (.t 12) (.t 10) 1)])
 (.seq (.region [Ob 13 (.addr (.t 2) 1),Ob 14 (.load (.t 13) none),Ob 15 (.mov (.t 1)),Ob 16 (.idx (.t 14) (.t 15) 4),Ob 17 (.addr (.t 16) 2),On (.store (.t 17) (Ci 0) 1)])
 (.seq (.region [Ob 18 (.load (.t 2) (some 2)),On (.store (.t 4) (.t 18) 2)])
 (.ret))))
def r54 : List Res := [.cell 4 (some 2)]
def a54 : AFn := ⟨2, c54, r54,.v⟩

def c55 : ACode := .seq (.region [Ob 2 (.box (.t 0) 2),Ob 4 (.new (.agg [(.sl [] .tight), (.sl [] .tight)]) 2)])
 (.seq (.region [Ob 6 (.load (.t 2) (some 2)),Ob 7 (.call 13 [(.t 6)]),Ob 5 (.new (.agg [(.sl [] .tight), (.sl [] .tight)]) 2),On (.store (.t 5) (.t 7) 2)])
 (.seq (.region [Ob 8 (.addr (.t 5) 1),Ob 9 (.load (.t 8) none),Ob 10 (.mov (.t 1)),Ob 11 (.idx (.t 9) (.t 10) 4),Ob 12 (.addr (.t 11) 2),On (.store (.t 12) (Ci 0) 1)])
 (.seq (.region [Ob 13 (.load (.t 5) (some 2)),On (.store (.t 4) (.t 13) 2)])
 (.ret))))
def r55 : List Res := [.cell 4 (some 2)]
def a55 : AFn := ⟨2, c55, r55,.v⟩

def c56 : ACode := .seq (.region [Ob 2 (.box (.t 0) 4),Ob 3 (.mov (.c (.bool false)))])
 (.seq (.region [Ob 4 (.load (.t 2) (some 4)),Ob 5 (.addr (.t 1) 0),Ob 6 (.load (.t 5) none),Ob 7 (.len (.t 6)),Ob 8 (.call 57 [(.t 4), (.t 7)]),Ob 9 (.not (.t 8)),Ob 3 (.mov (.t 9))])
 (.ret))
def r56 : List Res := [.t 3]
def a56 : AFn := ⟨2, c56, r56,.v⟩

def c57 : ACode := .seq (.region [Ob 2 (.box (.t 0) 4),Ob 4 (.mov (.c (.bool false)))])
 (.seq (.region [Ob 5 (.addr (.t 2) 0),Ob 6 (.load (.t 5) none),Ob 7 (.mov (.t 1)),Ob 8 (.bin .sub (.t 7) (Ci 1)),Ob 9 (.call 53 [(.t 6), (Ci 0), (.t 8)]),Ob 10 (.mov (.t 9)),Og 11 10 true (.addr (.t 2) 1),Og 12 10 true (.load (.t 11) none),Og 13 10 true (.bin .eql (.t 12) (Ci (-1))),Og 14 10 true (.mov (.t 13)),Og 15 14 false (.addr (.t 2) 1),Og 16 14 false (.load (.t 15) none),Og 17 14 false (.mov (.t 1)),Og 18 14 false (.bin .sub (.t 17) (Ci 1)),Og 19 14 false (.call 53 [(.t 16), (Ci 0), (.t 18)]),Og 20 10 true (.pick (.t 14) (.c (.bool true)) (.t 19)),Ob 21 (.pick (.t 10) (.t 20) (.c (.bool false))),Ob 22 (.mov (.t 21)),Og 23 22 true (.addr (.t 2) 0),Og 24 22 true (.load (.t 23) none),Og 25 22 true (.addr (.t 2) 1),Og 26 22 true (.load (.t 25) none),Og 27 22 true (.bin .neq (.t 24) (.t 26)),Ob 28 (.pick (.t 22) (.t 27) (.c (.bool false))),Ob 29 (.mov (.t 28)),Og 30 29 true (.addr (.t 2) 2),Og 31 29 true (.load (.t 30) none),Og 32 29 true (.call 53 [(.t 31), (Ci 0), (Ci 20)]),Ob 33 (.pick (.t 29) (.t 32) (.c (.bool false))),Ob 34 (.mov (.t 33)),Og 35 34 true (.addr (.t 2) 3),Og 36 34 true (.load (.t 35) none),Og 37 34 true (.call 53 [(.t 36), (Ci 1), (Ci 9)]),Ob 38 (.pick (.t 34) (.t 37) (.c (.bool false))),Ob 4 (.mov (.t 38))])
 (.ret))
def r57 : List Res := [.t 4]
def a57 : AFn := ⟨2, c57, r57,.v⟩

def c58 : ACode := .seq (.region [Ob 2 (.mov (.c (.bool false)))])
 (.seq (.region [Ob 3 (.mov (.t 0)),Ob 4 (.call 53 [(.t 3), (Ci 0), (Ci 99)]),Ob 5 (.not (.t 4)),Ob 2 (.mov (.t 5))])
 (.ret))
def r58 : List Res := [.t 2]
def a58 : AFn := ⟨1, c58, r58,.v⟩

def c59 : ACode := .seq (.region [Ob 4 (.mov (.c (.bool false)))])
 (.seq (.region [Ob 5 (.mov (.t 0)),Ob 6 (.mov (.t 1)),Ob 7 (.call 71 [(.t 5), (.t 6)]),Ob 8 (.bin .geq (.t 7) (Ci 0)),Ob 4 (.mov (.t 8))])
 (.ret))
def r59 : List Res := [.t 4]
def a59 : AFn := ⟨2, c59, r59,.v⟩

def c60 : ACode := .seq (.region [Ob 4 (.mov (.c (.bool false)))])
 (.seq (.region [Ob 5 (.mov (.t 0)),Ob 6 (.mov (.t 1)),Ob 7 (.call 72 [(.t 5), (.t 6)]),Ob 8 (.bin .geq (.t 7) (Ci 0)),Ob 4 (.mov (.t 8))])
 (.ret))
def r60 : List Res := [.t 4]
def a60 : AFn := ⟨2, c60, r60,.v⟩

def c61 : ACode := .seq (.region [Ob 2 (.box (.t 0) 4),Ob 3 (.box (.t 1) 3),Ob 4 (.mov (.c (.bool false)))])
 (.seq (.seq (.region [Ob 7 (.addr (.t 3) 1),Ob 8 (.load (.t 7) none),Ob 9 (.addr (.t 2) 0),Ob 10 (.addr (.t 9) 1),Ob 11 (.load (.t 10) none),Ob 12 (.len (.t 11)),Ob 13 (.bin .sub (.t 12) (Ci 1)),Ob 14 (.call 53 [(.t 8), (Ci 0), (.t 13)]),Ob 15 (.not (.t 14))])
 (.cond (.t 15) (.seq (.region [Ob 4 (.mov (.c (.bool false)))])
 (.ret))
 (.skip)))
 (.seq (.region [Ob 16 (.addr (.t 2) 0),Ob 17 (.addr (.t 16) 1),Ob 18 (.load (.t 17) none),Ob 19 (.addr (.t 3) 1),Ob 20 (.load (.t 19) none),Ob 21 (.idx (.t 18) (.t 20) 4),Ob 22 (.load (.t 21) (some 4)),Ob 23 (.addr (.t 3) 1),Ob 24 (.load (.t 23) none),Ob 25 (.addr (.t 3) 0),Ob 26 (.load (.t 25) none),Ob 27 (.build [(.int .i64 0), (.int .i64 0)] [(0, 1, (.t 24)), (1, 1, (.t 26))]),On (.mov (.c .undef)),On (.mov (.c .undef)),Ob 5 (.box (.t 22) 4),Ob 6 (.box (.t 27) 2)])
 (.seq (.seq (.region [Ob 28 (.addr (.t 3) 0),Ob 29 (.load (.t 28) none),Ob 30 (.addr (.t 2) 2),Ob 31 (.load (.t 30) none),Ob 32 (.addr (.t 5) 3),Ob 33 (.load (.t 32) none),Ob 34 (.bin .sub (.t 31) (.t 33)),Ob 35 (.call 53 [(.t 29), (Ci 0), (.t 34)]),Ob 36 (.not (.t 35)),Ob 37 (.mov (.t 36)),Og 38 37 false (.addr (.t 3) 2),Og 39 37 false (.load (.t 38) none),Og 40 37 false (.addr (.t 5) 2),Og 41 37 false (.load (.t 40) none),Og 42 37 false (.addr (.t 2) 3),Og 43 37 false (.load (.t 42) none),Og 44 37 false (.load (.t 6) (some 2)),Og 45 37 false (.mget (.n 2) (.int .i64 0) false (.t 43) (.t 44)),Og 46 37 false (.bin .sub (.t 41) (.t 45)),Og 47 37 false (.call 53 [(.t 39), (Ci 1), (.t 46)]),Og 48 37 false (.not (.t 47)),Ob 49 (.pick (.t 37) (.c (.bool true)) (.t 48))])
 (.cond (.t 49) (.seq (.region [Ob 4 (.mov (.c (.bool false)))])
 (.ret))
 (.skip)))
 (.seq (.region [Ob 50 (.addr (.t 2) 3),Ob 51 (.load (.t 50) none),Ob 52 (.load (.t 6) (some 2)),Ob 53 (.mget (.n 2) (.int .i64 0) false (.t 51) (.t 52)),Ob 54 (.addr (.t 3) 2),Ob 55 (.load (.t 54) none),Ob 56 (.bin .add (.t 53) (.t 55)),Ob 57 (.mov (.c .undef)),Ob 58 (.mov (.c .undef)),On (.mput (.n 2) (.t 51) (.t 52) (.t 56))])
 (.seq (.region [Ob 4 (.mov (.c (.bool true)))])
 (.ret))))))
def r61 : List Res := [.t 4]
def a61 : AFn := ⟨2, c61, r61,.r⟩

def c62 : ACode := .seq (.region [Ob 1 (.box (.t 0) 4),Ob 2 (.mov (.c (.bool false)))])
 (.seq (.region [Ob 7 (.addr (.t 1) 0),Ob 8 (.addr (.t 7) 0),Ob 9 (.load (.t 8) none),Ob 10 (.call 69 [(.t 9)]),Ob 3 (.mov (.t 10))])
 (.seq (.seq (.region [Ob 11 (.addr (.t 1) 2),Ob 12 (.load (.t 11) none),Ob 13 (.mov (Ci 0))])
 (.block 0 (.loop (.seq (.region [Ob 14 (.bin .lss (.t 13) (.t 12))])
 (.seq (.cond (.t 14) (.skip)
 (.exit 0))
 (.seq (.block 1 (.seq (.region [Ob 15 (.mov (.t 13)),Ob 4 (.mov (.t 15))])
 (.seq (.seq (.region [Ob 16 (.addr (.t 1) 0),Ob 17 (.addr (.t 16) 1),Ob 18 (.load (.t 17) none),Ob 19 (.len (.t 18)),Ob 20 (.mov (Ci 0))])
 (.block 2 (.loop (.seq (.region [Ob 21 (.bin .lss (.t 20) (.t 19))])
 (.seq (.cond (.t 21) (.skip)
 (.exit 2))
 (.seq (.block 3 (.seq (.region [Ob 22 (.mov (.t 20)),Ob 23 (.idx (.t 18) (.t 20) 4),Ob 24 (.load (.t 23) (some 4)),Ob 6 (.new (.agg [(.int .i64 0), (.int .i64 0), (.int .i64 0), (.int .i64 0)]) 4),Ob 5 (.mov (.t 22)),On (.store (.t 6) (.t 24) 4)])
 (.seq (.region [Ob 25 (.mov (.t 3)),Ob 26 (.addr (.t 6) 0),Ob 27 (.load (.t 26) none),Ob 28 (.idx (.t 25) (.t 27) 1),Ob 29 (.load (.t 28) none),Ob 30 (.addr (.t 1) 3),Ob 31 (.load (.t 30) none),Ob 32 (.mov (.t 5)),Ob 33 (.mov (.t 4)),Ob 34 (.build [(.int .i64 0), (.int .i64 0)] [(0, 1, (.t 32)), (1, 1, (.t 33))]),Ob 35 (.mget (.n 2) (.int .i64 0) false (.t 31) (.t 34)),Ob 36 (.bin .sub (.t 29) (.t 35)),Ob 37 (.idx (.t 25) (.t 27) 1),On (.store (.t 37) (.t 36) 1)])
 (.seq (.region [Ob 38 (.addr (.t 6) 1),Ob 39 (.load (.t 38) none),Ob 40 (.bin .neq (.t 39) (Ci (-1)))])
 (.cond (.t 40) (.region [Ob 41 (.mov (.t 3)),Ob 42 (.addr (.t 6) 1),Ob 43 (.load (.t 42) none),Ob 44 (.idx (.t 41) (.t 43) 1),Ob 45 (.load (.t 44) none),Ob 46 (.addr (.t 1) 3),Ob 47 (.load (.t 46) none),Ob 48 (.mov (.t 5)),Ob 49 (.mov (.t 4)),Ob 50 (.addr (.t 6) 3),Ob 51 (.load (.t 50) none),Ob 52 (.bin .sub (.t 49) (.t 51)),Ob 53 (.build [(.int .i64 0), (.int .i64 0)] [(0, 1, (.t 48)), (1, 1, (.t 52))]),Ob 54 (.mget (.n 2) (.int .i64 0) false (.t 47) (.t 53)),Ob 55 (.bin .add (.t 45) (.t 54)),Ob 56 (.idx (.t 41) (.t 43) 1),On (.store (.t 56) (.t 55) 1)])
 (.skip))))))
 (.region [Ob 57 (.bin .add (.t 20) (Ci 1)),Ob 20 (.mov (.t 57))])))))))
 (.seq (.region [Ob 58 (.mov (.t 3)),Ob 59 (.call 73 [(.t 58)]),Ob 60 (.bin .lss (.t 59) (Ci 0))])
 (.cond (.t 60) (.seq (.region [Ob 2 (.mov (.c (.bool false)))])
 (.ret))
 (.skip))))))
 (.region [Ob 61 (.bin .add (.t 13) (Ci 1)),Ob 13 (.mov (.t 61))])))))))
 (.seq (.region [Ob 2 (.mov (.c (.bool true)))])
 (.ret))))
def r62 : List Res := [.t 2]
def a62 : AFn := ⟨1, c62, r62,.r⟩

def c63 : ACode := .seq (.region [Ob 2 (.box (.t 0) 2),Ob 4 (.new (.agg [(.sl [] .tight), (.sl [] .tight), (.int .i64 0),.nilm, (.sl [] .tight), (.sl [] .tight)]) 6)])
 (.seq (.region [Ob 13 (.addr (.t 2) 0),Ob 14 (.load (.t 13) none),Ob 15 (.len (.t 14)),Ob 16 (.mov (.t 1)),Ob 17 (.bin .add (.t 16) (Ci 1)),Ob 18 (.bin .mul (.t 15) (.t 17)),Ob 19 (.bin .add (Ci 2) (.t 18)),Ob 5 (.mov (.t 19))])
 (.seq (.region [Ob 20 (.load (.t 2) (some 2)),Ob 21 (.mov (.t 1)),Ob 22 (.call 41 [(.t 20), (.t 21)]),Ob 23 (.mov (.t 5)),Ob 24 (.make (.sl [] .tight) 105 1 24 (.t 23) (.t 23)),Ob 25 (.mov (.t 5)),Ob 26 (.make (.bool false) 4 1 1 (.t 25) (.t 25)),Ob 27 (.build [(.sl [] .tight), (.sl [] .tight), (.int .i64 0),.nilm, (.sl [] .tight), (.sl [] .tight)] [(0, 4, (.t 22)), (4, 1, (.t 24)), (5, 1, (.t 26))]),Ob 6 (.new (.agg [(.sl [] .tight), (.sl [] .tight), (.int .i64 0),.nilm, (.sl [] .tight), (.sl [] .tight)]) 6),On (.store (.t 6) (.t 27) 6)])
 (.seq (.seq (.seq (.frzs 6)
 (.region [Ob 28 (.addr (.t 2) 0),Ob 29 (.load (.t 28) none),Ob 30 (.len (.t 29)),Ob 31 (.mov (Ci 0))]))
 (.block 0 (.loop (.seq (.region [Ob 32 (.bin .lss (.t 31) (.t 30))])
 (.seq (.cond (.t 32) (.skip)
 (.exit 0))
 (.seq (.block 1 (.seq (.region [Ob 33 (.mov (.t 31)),Ob 34 (.idx (.t 29) (.t 31) 1),Ob 35 (.load (.t 34) none),Ob 7 (.mov (.t 33)),Ob 8 (.mov (.t 35))])
 (.seq (.regionD [Ob 36 (.load (.t 6) (some 6)),Ob 37 (.mov (.t 7)),Ob 38 (.call 75 [(.t 37), (Ci (-1))]),Ob 39 (.load (.t 6) (some 6)),Ob 40 (.mov (.t 7)),Ob 41 (.call 68 [(.t 39), (.t 40), (Ci 0)]),Ob 42 (.mov (.t 8)),Ob 43 (.build [(.int .i64 0), (.int .i64 0), (.int .i64 0), (.int .i64 0), (.int .i64 0)] [(0, 2, (.t 38)), (2, 1, (Ci 0)), (3, 1, (.t 41)), (4, 1, (.t 42))]),Ob 44 (.call 74 [(.t 36), (.t 43)])] [(6, 6)])
 (.seq (.region [Ob 45 (.mov (.t 1)),Ob 46 (.mov (Ci 0))])
 (.block 2 (.loop (.seq (.region [Ob 47 (.bin .lss (.t 46) (.t 45))])
 (.seq (.cond (.t 47) (.skip)
 (.exit 2))
 (.seq (.block 3 (.seq (.region [Ob 48 (.mov (.t 46)),Ob 9 (.mov (.t 48))])
 (.regionD [Ob 49 (.load (.t 6) (some 6)),Ob 50 (.mov (.t 7)),Ob 51 (.mov (.t 9)),Ob 53 (.load (.t 6) (some 6)),Ob 54 (.mov (.t 7)),Ob 55 (.mov (.t 9)),Ob 57 (.load (.t 6) (some 6)),Ob 58 (.mov (.t 7)),Ob 59 (.mov (.t 9)),Ob 60 (.bin .add (.t 59) (Ci 1)),Ob 62 (.addr (.t 6) 0),Ob 63 (.load (.t 62) (some 4)),Ob 52 (.call 75 [(.t 50), (.t 51)]),Ob 56 (.call 68 [(.t 53), (.t 54), (.t 55)]),Ob 61 (.call 68 [(.t 57), (.t 58), (.t 60)]),Ob 64 (.call 65 [(.t 63)]),Ob 65 (.build [(.int .i64 0), (.int .i64 0), (.int .i64 0), (.int .i64 0), (.int .i64 0)] [(0, 2, (.t 52)), (2, 1, (.t 56)), (3, 1, (.t 61)), (4, 1, (.t 64))]),Ob 66 (.call 74 [(.t 49), (.t 65)])] [(6, 6), (6, 6), (6, 6), (6, 6), (6, 6), (6, 6), (62, 62), (62, 62)])))
 (.region [Ob 67 (.bin .add (.t 46) (Ci 1)),Ob 46 (.mov (.t 67))]))))))))))
 (.region [Ob 68 (.bin .add (.t 31) (Ci 1)),Ob 31 (.mov (.t 68))])))))))
 (.seq (.seq (.region [Ob 69 (.addr (.t 2) 1),Ob 70 (.load (.t 69) none),Ob 71 (.len (.t 70)),Ob 72 (.mov (Ci 0))])
 (.block 4 (.loop (.seq (.region [Ob 73 (.bin .lss (.t 72) (.t 71))])
 (.seq (.cond (.t 73) (.skip)
 (.exit 4))
 (.seq (.block 5 (.seq (.region [Ob 74 (.mov (.t 72)),Ob 75 (.idx (.t 70) (.t 72) 4),Ob 76 (.load (.t 75) (some 4)),Ob 11 (.new (.agg [(.int .i64 0), (.int .i64 0), (.int .i64 0), (.int .i64 0)]) 4),Ob 10 (.mov (.t 74)),On (.store (.t 11) (.t 76) 4)])
 (.seq (.seq (.frzs 11)
 (.region [Ob 77 (.mov (.t 1)),Ob 78 (.addr (.t 11) 3),Ob 79 (.load (.t 78) none),Ob 80 (.bin .sub (.t 77) (.t 79)),Ob 81 (.bin .add (.t 80) (Ci 1)),Ob 82 (.mov (Ci 0))]))
 (.block 6 (.loop (.seq (.region [Ob 83 (.bin .lss (.t 82) (.t 81))])
 (.seq (.cond (.t 83) (.skip)
 (.exit 6))
 (.seq (.block 7 (.seq (.region [Ob 84 (.mov (.t 82)),Ob 12 (.mov (.t 84))])
 (.regionD [Ob 85 (.load (.t 6) (some 6)),Ob 86 (.mov (.t 10)),Ob 87 (.mov (.t 12)),Ob 88 (.build [(.int .i64 0), (.int .i64 0)] [(0, 1, (.t 86)), (1, 1, (.t 87))]),Ob 89 (.load (.t 6) (some 6)),Ob 90 (.addr (.t 11) 0),Ob 91 (.load (.t 90) none),Ob 92 (.mov (.t 12)),Ob 94 (.load (.t 6) (some 6)),Ob 95 (.addr (.t 11) 1),Ob 96 (.load (.t 95) none),Ob 97 (.mov (.t 12)),Ob 98 (.addr (.t 11) 3),Ob 99 (.load (.t 98) none),Ob 100 (.bin .add (.t 97) (.t 99)),Ob 102 (.addr (.t 11) 2),Ob 103 (.load (.t 102) none),Ob 93 (.call 68 [(.t 89), (.t 91), (.t 92)]),Ob 101 (.call 68 [(.t 94), (.t 96), (.t 100)]),Ob 104 (.build [(.int .i64 0), (.int .i64 0), (.int .i64 0), (.int .i64 0), (.int .i64 0)] [(0, 2, (.t 88)), (2, 1, (.t 93)), (3, 1, (.t 101)), (4, 1, (.t 103))]),Ob 105 (.call 74 [(.t 85), (.t 104)])] [(6, 6), (6, 6), (6, 6), (11, 11), (95, 95), (11, 11), (98, 98), (11, 11), (11, 11), (102, 102), (102, 102)])))
 (.region [Ob 106 (.bin .add (.t 82) (Ci 1)),Ob 82 (.mov (.t 106))])))))))))
 (.region [Ob 107 (.bin .add (.t 72) (Ci 1)),Ob 72 (.mov (.t 107))])))))))
 (.seq (.region [Ob 108 (.load (.t 6) (some 6)),On (.store (.t 4) (.t 108) 6)])
 (.ret))))))
def r63 : List Res := [.cell 4 (some 6)]
def a63 : AFn := ⟨2, c63, r63,.r⟩

def c64 : ACode := .seq (.region [Ob 3 (.box (.t 0) 6),Ob 6 (.mov (Ci 0))])
 (.seq (.seq (.region [Ob 14 (.mov (.t 1)),Ob 15 (.bin .eql (.t 14) (Ci 1))])
 (.cond (.t 15) (.seq (.region [Ob 16 (.mov (.t 2)),Ob 6 (.mov (.t 16))])
 (.ret))
 (.skip)))
 (.seq (.region [Ob 17 (.addr (.t 3) 5),Ob 18 (.load (.t 17) none),Ob 19 (.mov (.t 1)),Ob 20 (.idx (.t 18) (.t 19) 1),On (.store (.t 20) (.c (.bool true)) 1)])
 (.seq (.region [Ob 7 (.mov (Ci 0))])
 (.seq (.seq (.region [Ob 21 (.addr (.t 3) 4),Ob 22 (.load (.t 21) none),Ob 23 (.mov (.t 1)),Ob 24 (.idx (.t 22) (.t 23) 1),Ob 25 (.load (.t 24) none),Ob 26 (.len (.t 25)),Ob 27 (.mov (Ci 0))])
 (.block 0 (.loop (.seq (.region [Ob 28 (.bin .lss (.t 27) (.t 26))])
 (.seq (.cond (.t 28) (.skip)
 (.exit 0))
 (.seq (.block 1 (.seq (.region [Ob 29 (.idx (.t 25) (.t 27) 5),Ob 30 (.load (.t 29) (some 5)),Ob 9 (.new (.agg [(.int .i64 0), (.int .i64 0), (.int .i64 0), (.int .i64 0), (.int .i64 0)]) 5),On (.store (.t 9) (.t 30) 5)])
 (.seq (.region [Ob 32 (.load (.t 3) (some 6)),Ob 33 (.load (.t 9) (some 5)),Ob 34 (.mov (.t 1)),Ob 35 (.call 76 [(.t 32), (.t 33), (.t 34)]),Ob 31 (.mov (.t 35)),Ob 36 (.ext (.t 31) 0),Ob 37 (.ext (.t 31) 1),Ob 38 (.ext (.t 31) 2),Ob 10 (.mov (.t 36)),Ob 11 (.mov (.t 37)),Ob 12 (.mov (.t 38))])
 (.seq (.region [Ob 39 (.mov (.t 11)),Ob 40 (.mov (.t 2)),Ob 41 (.mov (.t 7)),Ob 42 (.bin .sub (.t 40) (.t 41)),Ob 43 (.mnx false (.t 39) (.t 42)),Ob 11 (.mov (.t 43))])
 (.seq (.seq (.region [Ob 44 (.addr (.t 3) 5),Ob 45 (.load (.t 44) none),Ob 46 (.mov (.t 10)),Ob 47 (.idx (.t 45) (.t 46) 1),Ob 48 (.load (.t 47) none),Ob 49 (.mov (.t 48)),Og 50 49 false (.mov (.t 11)),Og 51 49 false (.bin .eql (.t 50) (Ci 0)),Ob 52 (.pick (.t 49) (.c (.bool true)) (.t 51))])
 (.cond (.t 52) (.exit 1)
 (.skip)))
 (.seq (.region [Ob 53 (.load (.t 3) (some 6)),Ob 54 (.mov (.t 10)),Ob 55 (.mov (.t 11)),Ob 56 (.call 64 [(.t 53), (.t 54), (.t 55)]),Ob 13 (.mov (.t 56))])
 (.seq (.region [Ob 57 (.addr (.t 3) 0),Ob 58 (.addr (.t 57) 3),Ob 59 (.load (.t 58) none),Ob 60 (.addr (.t 9) 0),Ob 61 (.load (.t 60) (some 2)),Ob 62 (.mget (.n 2) (.int .i64 0) false (.t 59) (.t 61)),Ob 63 (.mov (.t 12)),Ob 64 (.mov (.t 13)),Ob 65 (.bin .mul (.t 63) (.t 64)),Ob 66 (.bin .add (.t 62) (.t 65)),Ob 67 (.mov (.c .undef)),Ob 68 (.mov (.c .undef)),On (.mput (.n 2) (.t 59) (.t 61) (.t 66))])
 (.region [Ob 69 (.mov (.t 7)),Ob 70 (.mov (.t 13)),Ob 71 (.bin .add (.t 69) (.t 70)),Ob 7 (.mov (.t 71))]))))))))
 (.region [Ob 72 (.bin .add (.t 27) (Ci 1)),Ob 27 (.mov (.t 72))])))))))
 (.seq (.region [Ob 73 (.mov (.t 7)),Ob 6 (.mov (.t 73))])
 (.ret))))))
def r64 : List Res := [.t 6]
def a64 : AFn := ⟨3, c64, r64,.r⟩

def c65 : ACode := .seq (.region [Ob 1 (.box (.t 0) 4),Ob 2 (.mov (Ci 0))])
 (.seq (.region [Ob 3 (.mov (Ci 0))])
 (.seq (.seq (.region [Ob 6 (.addr (.t 1) 0),Ob 7 (.addr (.t 6) 0),Ob 8 (.load (.t 7) none),Ob 9 (.len (.t 8)),Ob 10 (.mov (Ci 0))])
 (.block 0 (.loop (.seq (.region [Ob 11 (.bin .lss (.t 10) (.t 9))])
 (.seq (.cond (.t 11) (.skip)
 (.exit 0))
 (.seq (.block 1 (.seq (.region [Ob 12 (.idx (.t 8) (.t 10) 1),Ob 13 (.load (.t 12) none),Ob 5 (.mov (.t 13))])
 (.region [Ob 14 (.mov (.t 3)),Ob 15 (.mov (.t 5)),Ob 16 (.bin .add (.t 14) (.t 15)),Ob 3 (.mov (.t 16))])))
 (.region [Ob 17 (.bin .add (.t 10) (Ci 1)),Ob 10 (.mov (.t 17))])))))))
 (.seq (.region [Ob 18 (.mov (.t 3)),Ob 2 (.mov (.t 18))])
 (.ret))))
def r65 : List Res := [.t 2]
def a65 : AFn := ⟨1, c65, r65,.r⟩

def c66 : ACode := .seq (.region [Ob 2 (.box (.t 0) 2),Ob 4 (.mov (.c (.sl [] .tight))),Ob 5 (.mov (Ci 0))])
 (.seq (.region [Ob 15 (.addr (.t 2) 0),Ob 16 (.load (.t 15) none),Ob 17 (.len (.t 16)),Ob 18 (.addr (.t 2) 0),Ob 19 (.load (.t 18) none),Ob 20 (.len (.t 19)),Ob 21 (.mov (.t 1)),Ob 22 (.bin .add (.t 21) (Ci 1)),Ob 23 (.bin .mul (.t 20) (.t 22)),Ob 24 (.bin .add (Ci 1) (.t 23)),Ob 6 (.mov (.t 17)),Ob 7 (.mov (.t 24))])
 (.seq (.region [Ob 8 (.mov (.c (.sl [] .tight)))])
 (.seq (.seq (.region [Ob 9 (.mov (Ci 0))])
 (.block 0 (.loop (.seq (.seq (.region [Ob 25 (.mov (.t 9)),Ob 26 (.mov (.t 6)),Ob 27 (.bin .lss (.t 25) (.t 26))])
 (.cond (.t 27) (.skip)
 (.exit 0)))
 (.seq (.block 1 (.seq (.region [Ob 30 (.mov (.t 8)),Ob 31 (.mov (.t 9)),Ob 32 (.bin .add (Ci 1) (.t 31)),Ob 33 (.addr (.t 2) 0),Ob 34 (.load (.t 33) none),Ob 35 (.mov (.t 9)),Ob 36 (.idx (.t 34) (.t 35) 1),Ob 37 (.load (.t 36) none),Ob 38 (.call 77 [(.t 30), (Ci 0), (.t 32), (.t 37)]),Ob 8 (.mov (.t 38))])
 (.seq (.region [Ob 10 (.mov (Ci 0))])
 (.block 2 (.loop (.seq (.seq (.region [Ob 39 (.mov (.t 10)),Ob 40 (.mov (.t 1)),Ob 41 (.bin .lss (.t 39) (.t 40))])
 (.cond (.t 41) (.skip)
 (.exit 2)))
 (.seq (.block 3 (.region [Ob 44 (.mov (.t 8)),Ob 45 (.mov (.t 10)),Ob 46 (.mov (.t 6)),Ob 47 (.bin .mul (.t 45) (.t 46)),Ob 48 (.bin .add (Ci 1) (.t 47)),Ob 49 (.mov (.t 9)),Ob 50 (.bin .add (.t 48) (.t 49)),Ob 51 (.mov (.t 10)),Ob 52 (.bin .add (.t 51) (Ci 1)),Ob 53 (.mov (.t 6)),Ob 54 (.bin .mul (.t 52) (.t 53)),Ob 55 (.bin .add (Ci 1) (.t 54)),Ob 56 (.mov (.t 9)),Ob 57 (.bin .add (.t 55) (.t 56)),Ob 58 (.load (.t 2) (some 2)),Ob 59 (.call 36 [(.t 58)]),Ob 60 (.call 77 [(.t 44), (.t 50), (.t 57), (.t 59)]),Ob 8 (.mov (.t 60))]))
 (.region [Ob 42 (.mov (.t 10)),Ob 43 (.bin .add (.t 42) (Ci 1)),Ob 10 (.mov (.t 43))]))))))))
 (.region [Ob 28 (.mov (.t 9)),Ob 29 (.bin .add (.t 28) (Ci 1)),Ob 9 (.mov (.t 29))]))))))
 (.seq (.seq (.region [Ob 11 (.mov (Ci 0))])
 (.block 4 (.loop (.seq (.seq (.region [Ob 61 (.mov (.t 11)),Ob 62 (.addr (.t 2) 1),Ob 63 (.load (.t 62) none),Ob 64 (.len (.t 63)),Ob 65 (.bin .lss (.t 61) (.t 64))])
 (.cond (.t 65) (.skip)
 (.exit 4)))
 (.seq (.block 5 (.seq (.region [Ob 68 (.addr (.t 2) 1),Ob 69 (.load (.t 68) none),Ob 70 (.mov (.t 11)),Ob 71 (.idx (.t 69) (.t 70) 4),Ob 72 (.load (.t 71) (some 4)),Ob 12 (.new (.agg [(.int .i64 0), (.int .i64 0), (.int .i64 0), (.int .i64 0)]) 4),On (.store (.t 12) (.t 72) 4)])
 (.seq (.region [Ob 13 (.mov (Ci 0))])
 (.block 6 (.loop (.seq (.seq (.region [Ob 73 (.mov (.t 13)),Ob 74 (.addr (.t 12) 3),Ob 75 (.load (.t 74) none),Ob 76 (.bin .add (.t 73) (.t 75)),Ob 77 (.mov (.t 1)),Ob 78 (.bin .leq (.t 76) (.t 77))])
 (.cond (.t 78) (.skip)
 (.exit 6)))
 (.seq (.block 7 (.seq (.region [Ob 81 (.mov (.t 7)),Ob 14 (.mov (.t 81))])
 (.seq (.seq (.region [Ob 82 (.addr (.t 12) 1),Ob 83 (.load (.t 82) none),Ob 84 (.bin .neq (.t 83) (Ci (-1)))])
 (.cond (.t 84) (.region [Ob 85 (.mov (.t 13)),Ob 86 (.addr (.t 12) 3),Ob 87 (.load (.t 86) none),Ob 88 (.bin .add (.t 85) (.t 87)),Ob 89 (.mov (.t 6)),Ob 90 (.bin .mul (.t 88) (.t 89)),Ob 91 (.bin .add (Ci 1) (.t 90)),Ob 92 (.addr (.t 12) 1),Ob 93 (.load (.t 92) none),Ob 94 (.bin .add (.t 91) (.t 93)),Ob 14 (.mov (.t 94))])
 (.skip)))
 (.region [Ob 95 (.mov (.t 8)),Ob 96 (.mov (.t 13)),Ob 97 (.mov (.t 6)),Ob 98 (.bin .mul (.t 96) (.t 97)),Ob 99 (.bin .add (Ci 1) (.t 98)),Ob 100 (.addr (.t 12) 0),Ob 101 (.load (.t 100) none),Ob 102 (.bin .add (.t 99) (.t 101)),Ob 103 (.mov (.t 14)),Ob 104 (.addr (.t 12) 2),Ob 105 (.load (.t 104) none),Ob 106 (.call 77 [(.t 95), (.t 102), (.t 103), (.t 105)]),Ob 8 (.mov (.t 106))]))))
 (.region [Ob 79 (.mov (.t 13)),Ob 80 (.bin .add (.t 79) (Ci 1)),Ob 13 (.mov (.t 80))]))))))))
 (.region [Ob 66 (.mov (.t 11)),Ob 67 (.bin .add (.t 66) (Ci 1)),Ob 11 (.mov (.t 67))]))))))
 (.seq (.region [Ob 107 (.mov (.t 8)),Ob 108 (.mov (.t 7)),Ob 4 (.mov (.t 107)),Ob 5 (.mov (.t 108))])
 (.ret))))))
def r66 : List Res := [.t 4,.t 5]
def a66 : AFn := ⟨2, c66, r66,.r⟩

def c67 : ACode := .seq (.region [Ob 4 (.mov (.c (.sl [] .tight))),Ob 5 (.mov (.c (.bool false)))])
 (.seq (.region [Ob 12 (.mov (.t 1)),Ob 13 (.bin .add (.t 12) (Ci 1)),Ob 14 (.make (.int .i64 0) 3 1 8 (.t 13) (.t 13)),Ob 6 (.mov (.t 14))])
 (.seq (.region [Ob 15 (.lit false 3 1 [(Ci 0)]),Ob 7 (.mov (.t 15))])
 (.seq (.seq (.region [Ob 8 (.mov (Ci 0))])
 (.block 0 (.loop (.seq (.seq (.region [Ob 16 (.mov (.t 8)),Ob 17 (.mov (.t 7)),Ob 18 (.len (.t 17)),Ob 19 (.bin .lss (.t 16) (.t 18)),Ob 20 (.mov (.t 19)),Og 21 20 true (.mov (.t 6)),Og 22 20 true (.mov (.t 1)),Og 23 20 true (.idx (.t 21) (.t 22) 1),Og 24 20 true (.load (.t 23) none),Og 25 20 true (.bin .eql (.t 24) (Ci 0)),Ob 26 (.pick (.t 20) (.t 25) (.c (.bool false)))])
 (.cond (.t 26) (.skip)
 (.exit 0)))
 (.seq (.block 1 (.seq (.region [Ob 9 (.mov (Ci 0))])
 (.block 2 (.loop (.seq (.seq (.region [Ob 29 (.mov (.t 9)),Ob 30 (.mov (.t 0)),Ob 31 (.len (.t 30)),Ob 32 (.bin .lss (.t 29) (.t 31))])
 (.cond (.t 32) (.skip)
 (.exit 2)))
 (.seq (.block 3 (.seq (.region [Ob 35 (.mov (.t 0)),Ob 36 (.mov (.t 9)),Ob 37 (.idx (.t 35) (.t 36) 3),Ob 38 (.addr (.t 37) 0),Ob 39 (.load (.t 38) none),Ob 40 (.mov (.t 7)),Ob 41 (.mov (.t 8)),Ob 42 (.idx (.t 40) (.t 41) 1),Ob 43 (.load (.t 42) none),Ob 44 (.bin .eql (.t 39) (.t 43)),Ob 45 (.mov (.t 44)),Og 46 45 true (.mov (.t 0)),Og 47 45 true (.mov (.t 9)),Og 48 45 true (.idx (.t 46) (.t 47) 3),Og 49 45 true (.addr (.t 48) 2),Og 50 45 true (.load (.t 49) none),Og 51 45 true (.bin .gtr (.t 50) (Ci 0)),Ob 52 (.pick (.t 45) (.t 51) (.c (.bool false))),Ob 53 (.mov (.t 52)),Og 54 53 true (.mov (.t 0)),Og 55 53 true (.mov (.t 9)),Og 56 53 true (.idx (.t 54) (.t 55) 3),Og 57 53 true (.addr (.t 56) 1),Og 58 53 true (.load (.t 57) none),Og 59 53 true (.bin .neq (.t 58) (Ci 0)),Ob 60 (.pick (.t 53) (.t 59) (.c (.bool false))),Ob 61 (.mov (.t 60)),Og 62 61 true (.mov (.t 6)),Og 63 61 true (.mov (.t 0)),Og 64 61 true (.mov (.t 9)),Og 65 61 true (.idx (.t 63) (.t 64) 3),Og 66 61 true (.addr (.t 65) 1),Og 67 61 true (.load (.t 66) none),Og 68 61 true (.idx (.t 62) (.t 67) 1),Og 69 61 true (.load (.t 68) none),Og 70 61 true (.bin .eql (.t 69) (Ci 0)),Ob 71 (.pick (.t 61) (.t 70) (.c (.bool false)))])
 (.cond (.t 71) (.seq (.region [Ob 72 (.mov (.t 6)),Ob 73 (.mov (.t 0)),Ob 74 (.mov (.t 9)),Ob 75 (.idx (.t 73) (.t 74) 3),Ob 76 (.addr (.t 75) 1),Ob 77 (.load (.t 76) none),Ob 78 (.mov (.t 9)),Ob 79 (.bin .add (.t 78) (Ci 1)),Ob 80 (.idx (.t 72) (.t 77) 1),On (.store (.t 80) (.t 79) 1)])
 (.region [Ob 81 (.mov (.t 7)),Ob 82 (.mov (.t 0)),Ob 83 (.mov (.t 9)),Ob 84 (.idx (.t 82) (.t 83) 3),Ob 85 (.addr (.t 84) 1),Ob 86 (.load (.t 85) none),Ob 87 (.lit false 3 1 [(.t 86)]),Ob 88 (.app false (.t 81) (.t 87) 3 1 8),Ob 7 (.mov (.t 88))]))
 (.skip))))
 (.region [Ob 33 (.mov (.t 9)),Ob 34 (.bin .add (.t 33) (Ci 1)),Ob 9 (.mov (.t 34))])))))))
 (.region [Ob 27 (.mov (.t 8)),Ob 28 (.bin .add (.t 27) (Ci 1)),Ob 8 (.mov (.t 28))]))))))
 (.seq (.region [Ob 10 (.mov (.c (.sl [] .tight)))])
 (.seq (.seq (.region [Ob 89 (.mov (.t 1)),Ob 11 (.mov (.t 89))])
 (.block 4 (.loop (.seq (.seq (.region [Ob 90 (.mov (.t 11)),Ob 91 (.bin .neq (.t 90) (Ci 0)),Ob 92 (.mov (.t 91)),Og 93 92 true (.mov (.t 6)),Og 94 92 true (.mov (.t 11)),Og 95 92 true (.idx (.t 93) (.t 94) 1),Og 96 92 true (.load (.t 95) none),Og 97 92 true (.bin .gtr (.t 96) (Ci 0)),Ob 98 (.pick (.t 92) (.t 97) (.c (.bool false)))])
 (.cond (.t 98) (.skip)
 (.exit 4)))
 (.seq (.block 5 (.region [Ob 108 (.mov (.t 10)),Ob 109 (.mov (.t 6)),Ob 110 (.mov (.t 11)),Ob 111 (.idx (.t 109) (.t 110) 1),Ob 112 (.load (.t 111) none),Ob 113 (.bin .sub (.t 112) (Ci 1)),Ob 114 (.lit false 3 1 [(.t 113)]),Ob 115 (.app false (.t 108) (.t 114) 3 1 8),Ob 10 (.mov (.t 115))]))
 (.region [Ob 99 (.mov (.t 0)),Ob 100 (.mov (.t 6)),Ob 101 (.mov (.t 11)),Ob 102 (.idx (.t 100) (.t 101) 1),Ob 103 (.load (.t 102) none),Ob 104 (.bin .sub (.t 103) (Ci 1)),Ob 105 (.idx (.t 99) (.t 104) 3),Ob 106 (.addr (.t 105) 0),Ob 107 (.load (.t 106) none),Ob 11 (.mov (.t 107))]))))))
 (.seq (.region [Ob 116 (.mov (.t 10)),Ob 117 (.mov (.t 6)),Ob 118 (.mov (.t 1)),Ob 119 (.idx (.t 117) (.t 118) 1),Ob 120 (.load (.t 119) none),Ob 121 (.bin .gtr (.t 120) (Ci 0)),Ob 4 (.mov (.t 116)),Ob 5 (.mov (.t 121))])
 (.ret)))))))
def r67 : List Res := [.t 4,.t 5]
def a67 : AFn := ⟨2, c67, r67,.r⟩

def c68 : ACode := .seq (.region [Ob 3 (.box (.t 0) 6),Ob 6 (.mov (Ci 0))])
 (.seq (.seq (.region [Ob 7 (.mov (.t 1)),Ob 8 (.bin .eql (.t 7) (Ci (-1)))])
 (.cond (.t 8) (.seq (.region [Ob 6 (.mov (Ci 1))])
 (.ret))
 (.skip)))
 (.seq (.region [Ob 9 (.mov (.t 1)),Ob 10 (.addr (.t 3) 0),Ob 11 (.addr (.t 10) 2),Ob 12 (.load (.t 11) none),Ob 13 (.bin .add (.t 12) (Ci 1)),Ob 14 (.bin .mul (.t 9) (.t 13)),Ob 15 (.bin .add (Ci 2) (.t 14)),Ob 16 (.mov (.t 2)),Ob 17 (.bin .add (.t 15) (.t 16)),Ob 6 (.mov (.t 17))])
 (.ret)))
def r68 : List Res := [.t 6]
def a68 : AFn := ⟨3, c68, r68,.r⟩

def c69 : ACode := .seq (.region [Ob 2 (.mov (.c (.sl [] .tight)))])
 (.nilq [Ob 3 (.mov (.t 0))] (.t 3) 4 (.seq (.cond (.t 4) (.seq (.region [Ob 2 (.mov (.c (.sl [] .tight)))])
 (.ret))
 (.skip))
 (.seq (.region [Ob 5 (.lit false 3 1 []),Ob 6 (.mov (.t 0)),Ob 7 (.app0 (.t 5) (.t 6) 3 1 8),Ob 2 (.mov (.t 7))])
 (.ret))) [])
def r69 : List Res := [.t 2]
def a69 : AFn := ⟨1, c69, r69,.o⟩

def c70 : ACode := .seq (.region [Ob 2 (.mov (.c (.sl [] .tight)))])
 (.nilq [Ob 3 (.mov (.t 0))] (.t 3) 4 (.seq (.cond (.t 4) (.seq (.region [Ob 2 (.mov (.c (.sl [] .tight)))])
 (.ret))
 (.skip))
 (.seq (.region [Ob 5 (.lit false 52 4 []),Ob 6 (.mov (.t 0)),Ob 7 (.app0 (.t 5) (.t 6) 52 4 32),Ob 2 (.mov (.t 7))])
 (.ret))) [])
def r70 : List Res := [.t 2]
def a70 : AFn := ⟨1, c70, r70,.o⟩

def c71 : ACode := .seq (.region [Ob 4 (.mov (Ci 0))])
 (.seq (.seq (.region [Ob 6 (.mov (.t 0)),Ob 7 (.len (.t 6)),Ob 8 (.mov (Ci 0))])
 (.block 0 (.loop (.seq (.region [Ob 9 (.bin .lss (.t 8) (.t 7))])
 (.seq (.cond (.t 9) (.skip)
 (.exit 0))
 (.seq (.block 1 (.seq (.region [Ob 10 (.mov (.t 8)),Ob 5 (.mov (.t 10))])
 (.seq (.region [Ob 11 (.mov (.t 1)),Ob 12 (.mov (.t 0)),Ob 13 (.mov (.t 5)),Ob 14 (.idx (.t 12) (.t 13) 1),Ob 15 (.load (.t 14) none),Ob 16 (.callv (.t 11) [(.t 15)])])
 (.cond (.t 16) (.seq (.region [Ob 17 (.mov (.t 5)),Ob 4 (.mov (.t 17))])
 (.ret))
 (.skip)))))
 (.region [Ob 18 (.bin .add (.t 8) (Ci 1)),Ob 8 (.mov (.t 18))])))))))
 (.seq (.region [Ob 4 (.mov (Ci (-1)))])
 (.ret)))
def r71 : List Res := [.t 4]
def a71 : AFn := ⟨2, c71, r71,.v⟩

def c72 : ACode := .seq (.region [Ob 4 (.mov (Ci 0))])
 (.seq (.seq (.region [Ob 6 (.mov (.t 0)),Ob 7 (.len (.t 6)),Ob 8 (.mov (Ci 0))])
 (.block 0 (.loop (.seq (.region [Ob 9 (.bin .lss (.t 8) (.t 7))])
 (.seq (.cond (.t 9) (.skip)
 (.exit 0))
 (.seq (.block 1 (.seq (.region [Ob 10 (.mov (.t 8)),Ob 5 (.mov (.t 10))])
 (.seq (.region [Ob 11 (.mov (.t 1)),Ob 12 (.mov (.t 0)),Ob 13 (.mov (.t 5)),Ob 14 (.idx (.t 12) (.t 13) 4),Ob 15 (.load (.t 14) (some 4)),Ob 16 (.callv (.t 11) [(.t 15)])])
 (.cond (.t 16) (.seq (.region [Ob 17 (.mov (.t 5)),Ob 4 (.mov (.t 17))])
 (.ret))
 (.skip)))))
 (.region [Ob 18 (.bin .add (.t 8) (Ci 1)),Ob 8 (.mov (.t 18))])))))))
 (.seq (.region [Ob 4 (.mov (Ci (-1)))])
 (.ret)))
def r72 : List Res := [.t 4]
def a72 : AFn := ⟨2, c72, r72,.v⟩

def c73 : ACode := .seq (.region [Ob 2 (.mov (Ci 0))])
 (.seq (.seq (.region [Ob 5 (.mov (.t 0)),Ob 6 (.len (.t 5)),Ob 7 (.bin .lss (.t 6) (Ci 1))])
 (.cond (.t 7) (.region [Ob 8 (.bad),On (.bad)])
 (.skip)))
 (.seq (.region [Ob 9 (.mov (.t 0)),Ob 10 (.idx (.t 9) (Ci 0) 1),Ob 11 (.load (.t 10) none),Ob 3 (.mov (.t 11))])
 (.seq (.seq (.region [Ob 4 (.mov (Ci 1))])
 (.block 0 (.loop (.seq (.seq (.region [Ob 12 (.mov (.t 4)),Ob 13 (.mov (.t 0)),Ob 14 (.len (.t 13)),Ob 15 (.bin .lss (.t 12) (.t 14))])
 (.cond (.t 15) (.skip)
 (.exit 0)))
 (.seq (.block 1 (.region [Ob 18 (.mov (.t 3)),Ob 19 (.mov (.t 0)),Ob 20 (.mov (.t 4)),Ob 21 (.idx (.t 19) (.t 20) 1),Ob 22 (.load (.t 21) none),Ob 23 (.mnx false (.t 18) (.t 22)),Ob 3 (.mov (.t 23))]))
 (.region [Ob 16 (.mov (.t 4)),Ob 17 (.bin .add (.t 16) (Ci 1)),Ob 4 (.mov (.t 17))]))))))
 (.seq (.region [Ob 24 (.mov (.t 3)),Ob 2 (.mov (.t 24))])
 (.ret)))))
def r73 : List Res := [.t 2]
def a73 : AFn := ⟨1, c73, r73,.v⟩

def c74 : ACode := .seq (.region [Ob 2 (.box (.t 0) 6),Ob 3 (.box (.t 1) 5)])
 (.seq (.regionD [Ob 4 (.addr (.t 2) 4),Ob 5 (.load (.t 4) none),Ob 6 (.addr (.t 3) 2),Ob 7 (.load (.t 6) none),Ob 8 (.addr (.t 2) 4),Ob 9 (.load (.t 8) none),Ob 10 (.addr (.t 3) 2),Ob 11 (.load (.t 10) none),Ob 12 (.idx (.t 9) (.t 11) 1),Ob 13 (.load (.t 12) none),Ob 14 (.load (.t 3) (some 5)),Ob 15 (.lit false 104 5 [(.t 14)]),Ob 16 (.app false (.t 13) (.t 15) 104 5 40),Ob 17 (.idx (.t 5) (.t 7) 1),On (.store (.t 17) (.t 16) 1)] [(2, 13), (4, 13), (3, 13), (6, 13)])
 (.regionD [Ob 18 (.addr (.t 2) 4),Ob 19 (.load (.t 18) none),Ob 20 (.addr (.t 3) 3),Ob 21 (.load (.t 20) none),Ob 22 (.addr (.t 2) 4),Ob 23 (.load (.t 22) none),Ob 24 (.addr (.t 3) 3),Ob 25 (.load (.t 24) none),Ob 26 (.idx (.t 23) (.t 25) 1),Ob 27 (.load (.t 26) none),Ob 28 (.load (.t 3) (some 5)),Ob 29 (.lit false 104 5 [(.t 28)]),Ob 30 (.app false (.t 27) (.t 29) 104 5 40),Ob 31 (.idx (.t 19) (.t 21) 1),On (.store (.t 31) (.t 30) 1)] [(2, 27), (18, 27), (3, 27), (20, 27)]))
def r74 : List Res := []
def a74 : AFn := ⟨2, c74, r74,.r⟩

def c75 : ACode := .seq (.region [Ob 4 (.new (.agg [(.int .i64 0), (.int .i64 0)]) 2)])
 (.seq (.region [Ob 5 (.mov (.t 0)),Ob 6 (.bin .sub (Ci (-1)) (.t 5)),Ob 7 (.mov (.t 1)),Ob 8 (.build [(.int .i64 0), (.int .i64 0)] [(0, 1, (.t 6)), (1, 1, (.t 7))]),On (.store (.t 4) (.t 8) 2)])
 (.ret))
def r75 : List Res := [.cell 4 (some 2)]
def a75 : AFn := ⟨2, c75, r75,.v⟩

def c76 : ACode := .seq (.region [Ob 3 (.box (.t 0) 6),Ob 4 (.box (.t 1) 5),Ob 6 (.mov (Ci 0)),Ob 7 (.mov (Ci 0)),Ob 8 (.mov (Ci 0))])
 (.seq (.seq (.region [Ob 9 (.addr (.t 4) 2),Ob 10 (.load (.t 9) none),Ob 11 (.mov (.t 2)),Ob 12 (.bin .eql (.t 10) (.t 11))])
 (.cond (.t 12) (.seq (.region [Ob 13 (.addr (.t 4) 3),Ob 14 (.load (.t 13) none),Ob 15 (.addr (.t 4) 4),Ob 16 (.load (.t 15) none),Ob 17 (.addr (.t 3) 0),Ob 18 (.addr (.t 17) 3),Ob 19 (.load (.t 18) none),Ob 20 (.addr (.t 4) 0),Ob 21 (.load (.t 20) (some 2)),Ob 22 (.mget (.n 2) (.int .i64 0) false (.t 19) (.t 21)),Ob 23 (.bin .sub (.t 16) (.t 22)),Ob 6 (.mov (.t 14)),Ob 7 (.mov (.t 23)),Ob 8 (.mov (Ci 1))])
 (.ret))
 (.skip)))
 (.seq (.region [Ob 24 (.addr (.t 4) 2),Ob 25 (.load (.t 24) none),Ob 26 (.addr (.t 3) 0),Ob 27 (.addr (.t 26) 3),Ob 28 (.load (.t 27) none),Ob 29 (.addr (.t 4) 0),Ob 30 (.load (.t 29) (some 2)),Ob 31 (.mget (.n 2) (.int .i64 0) false (.t 28) (.t 30)),Ob 6 (.mov (.t 25)),Ob 7 (.mov (.t 31)),Ob 8 (.mov (Ci (-1)))])
 (.ret)))
def r76 : List Res := [.t 6,.t 7,.t 8]
def a76 : AFn := ⟨3, c76, r76,.r⟩

def c77 : ACode := .seq (.region [Ob 8 (.mov (.c (.sl [] .tight)))])
 (.seq (.region [Ob 9 (.mov (.t 0)),Ob 10 (.mov (.t 1)),Ob 11 (.mov (.t 2)),Ob 12 (.mov (.t 3)),Ob 13 (.build [(.int .i64 0), (.int .i64 0), (.int .i64 0)] [(0, 1, (.t 10)), (1, 1, (.t 11)), (2, 1, (.t 12))]),Ob 14 (.mov (.t 2)),Ob 15 (.mov (.t 1)),Ob 16 (.build [(.int .i64 0), (.int .i64 0), (.int .i64 0)] [(0, 1, (.t 14)), (1, 1, (.t 15)), (2, 1, (Ci 0))]),Ob 17 (.lit true 94 3 [(.t 13), (.t 16)]),Ob 18 (.app true (.t 9) (.t 17) 94 3 24),Ob 8 (.mov (.t 18))])
 (.ret))
def r77 : List Res := [.t 8]
def a77 : AFn := ⟨4, c77, r77,.r⟩


def ft : FuncId → Option AFn
  | 3 => some a3
  | 4 => some a4
  | 5 => some a5
  | 6 => some a6
  | 7 => some a7
  | 8 => some a8
  | 9 => some a9
  | 10 => some a10
  | 11 => some a11
  | 12 => some a12
  | 13 => some a13
  | 14 => some a14
  | 15 => some a15
  | 16 => some a16
  | 17 => some a17
  | 18 => some a18
  | 19 => some a19
  | 20 => some a20
  | 21 => some a21
  | 22 => some a22
  | 23 => some a23
  | 24 => some a24
  | 25 => some a25
  | 26 => some a26
  | 27 => some a27
  | 28 => some a28
  | 29 => some a29
  | 30 => some a30
  | 31 => some a31
  | 32 => some a32
  | 33 => some a33
  | 34 => some a34
  | 35 => some a35
  | 36 => some a36
  | 37 => some a37
  | 38 => some a38
  | 39 => some a39
  | 40 => some a40
  | 41 => some a41
  | 42 => some a42
  | 43 => some a43
  | 44 => some a44
  | 45 => some a45
  | 46 => some a46
  | 47 => some a47
  | 48 => some a48
  | 49 => some a49
  | 50 => some a50
  | 51 => some a51
  | 52 => some a52
  | 53 => some a53
  | 54 => some a54
  | 55 => some a55
  | 56 => some a56
  | 57 => some a57
  | 58 => some a58
  | 59 => some a59
  | 60 => some a60
  | 61 => some a61
  | 62 => some a62
  | 63 => some a63
  | 64 => some a64
  | 65 => some a65
  | 66 => some a66
  | 67 => some a67
  | 68 => some a68
  | 69 => some a69
  | 70 => some a70
  | 71 => some a71
  | 72 => some a72
  | 73 => some a73
  | 74 => some a74
  | 75 => some a75
  | 76 => some a76
  | 77 => some a77
  | _ => none
theorem ft3 : ft 3 = some a3 := rfl
theorem ft4 : ft 4 = some a4 := rfl
theorem ft5 : ft 5 = some a5 := rfl
theorem ft6 : ft 6 = some a6 := rfl
theorem ft7 : ft 7 = some a7 := rfl
theorem ft8 : ft 8 = some a8 := rfl
theorem ft9 : ft 9 = some a9 := rfl
theorem ft10 : ft 10 = some a10 := rfl
theorem ft11 : ft 11 = some a11 := rfl
theorem ft12 : ft 12 = some a12 := rfl
theorem ft13 : ft 13 = some a13 := rfl
theorem ft14 : ft 14 = some a14 := rfl
theorem ft15 : ft 15 = some a15 := rfl
theorem ft16 : ft 16 = some a16 := rfl
theorem ft17 : ft 17 = some a17 := rfl
theorem ft18 : ft 18 = some a18 := rfl
theorem ft19 : ft 19 = some a19 := rfl
theorem ft20 : ft 20 = some a20 := rfl
theorem ft21 : ft 21 = some a21 := rfl
theorem ft22 : ft 22 = some a22 := rfl
theorem ft23 : ft 23 = some a23 := rfl
theorem ft24 : ft 24 = some a24 := rfl
theorem ft25 : ft 25 = some a25 := rfl
theorem ft26 : ft 26 = some a26 := rfl
theorem ft27 : ft 27 = some a27 := rfl
theorem ft28 : ft 28 = some a28 := rfl
theorem ft29 : ft 29 = some a29 := rfl
theorem ft30 : ft 30 = some a30 := rfl
theorem ft31 : ft 31 = some a31 := rfl
theorem ft32 : ft 32 = some a32 := rfl
theorem ft33 : ft 33 = some a33 := rfl
theorem ft34 : ft 34 = some a34 := rfl
theorem ft35 : ft 35 = some a35 := rfl
theorem ft36 : ft 36 = some a36 := rfl
theorem ft37 : ft 37 = some a37 := rfl
theorem ft38 : ft 38 = some a38 := rfl
theorem ft39 : ft 39 = some a39 := rfl
theorem ft40 : ft 40 = some a40 := rfl
theorem ft41 : ft 41 = some a41 := rfl
theorem ft42 : ft 42 = some a42 := rfl
theorem ft43 : ft 43 = some a43 := rfl
theorem ft44 : ft 44 = some a44 := rfl
theorem ft45 : ft 45 = some a45 := rfl
theorem ft46 : ft 46 = some a46 := rfl
theorem ft47 : ft 47 = some a47 := rfl
theorem ft48 : ft 48 = some a48 := rfl
theorem ft49 : ft 49 = some a49 := rfl
theorem ft50 : ft 50 = some a50 := rfl
theorem ft51 : ft 51 = some a51 := rfl
theorem ft52 : ft 52 = some a52 := rfl
theorem ft53 : ft 53 = some a53 := rfl
theorem ft54 : ft 54 = some a54 := rfl
theorem ft55 : ft 55 = some a55 := rfl
theorem ft56 : ft 56 = some a56 := rfl
theorem ft57 : ft 57 = some a57 := rfl
theorem ft58 : ft 58 = some a58 := rfl
theorem ft59 : ft 59 = some a59 := rfl
theorem ft60 : ft 60 = some a60 := rfl
theorem ft61 : ft 61 = some a61 := rfl
theorem ft62 : ft 62 = some a62 := rfl
theorem ft63 : ft 63 = some a63 := rfl
theorem ft64 : ft 64 = some a64 := rfl
theorem ft65 : ft 65 = some a65 := rfl
theorem ft66 : ft 66 = some a66 := rfl
theorem ft67 : ft 67 = some a67 := rfl
theorem ft68 : ft 68 = some a68 := rfl
theorem ft69 : ft 69 = some a69 := rfl
theorem ft70 : ft 70 = some a70 := rfl
theorem ft71 : ft 71 = some a71 := rfl
theorem ft72 : ft 72 = some a72 := rfl
theorem ft73 : ft 73 = some a73 := rfl
theorem ft74 : ft 74 = some a74 := rfl
theorem ft75 : ft 75 = some a75 := rfl
theorem ft76 : ft 76 = some a76 := rfl
theorem ft77 : ft 77 = some a77 := rfl
end Go.Ab.T
end

section
namespace Go.Ab.T
theorem WB3 (s : St) (as : List AV) (K : AV → St → Prop) : WB ft 3 as s K = WV ft 3 (as.map (snap s.mem dep)) fun v => (as.all (fun a => !hot dep a) || plain dep v) = true ∧ K v s := WB_v ft3 rfl as s K
theorem WB4 (s : St) (as : List AV) (K : AV → St → Prop) : WB ft 4 as s K = WV ft 4 (as.map (snap s.mem dep)) fun v => (as.all (fun a => !hot dep a) || plain dep v) = true ∧ K v s := WB_v ft4 rfl as s K
theorem WB5 (s : St) (as : List AV) (K : AV → St → Prop) : WB ft 5 as s K = WV ft 5 (as.map (snap s.mem dep)) fun v => (as.all (fun a => !hot dep a) || plain dep v) = true ∧ K v s := WB_v ft5 rfl as s K
theorem WB6 (s : St) (as : List AV) (K : AV → St → Prop) : WB ft 6 as s K = WV ft 6 (as.map (snap s.mem dep)) fun v => (as.all (fun a => !hot dep a) || plain dep v) = true ∧ K v s := WB_v ft6 rfl as s K
theorem WB7 (s : St) (as : List AV) (K : AV → St → Prop) : WB ft 7 as s K = WV ft 7 (as.map (snap s.mem dep)) fun v => (as.all (fun a => !hot dep a) || plain dep v) = true ∧ K v s := WB_v ft7 rfl as s K
theorem WB8 (s : St) (as : List AV) (K : AV → St → Prop) : WB ft 8 as s K = WV ft 8 (as.map (snap s.mem dep)) fun v => (as.all (fun a => !hot dep a) || plain dep v) = true ∧ K v s := WB_v ft8 rfl as s K
theorem WB9 (s : St) (as : List AV) (K : AV → St → Prop) : WB ft 9 as s K = WV ft 9 (as.map (snap s.mem dep)) fun v => (as.all (fun a => !hot dep a) || plain dep v) = true ∧ K v s := WB_v ft9 rfl as s K
theorem WB10 (s : St) (as : List AV) (K : AV → St → Prop) : WB ft 10 as s K = WV ft 10 (as.map (snap s.mem dep)) fun v => (as.all (fun a => !hot dep a) || plain dep v) = true ∧ K v s := WB_v ft10 rfl as s K
theorem WB11 (s : St) (as : List AV) (K : AV → St → Prop) : WB ft 11 as s K = WV ft 11 (as.map (snap s.mem dep)) fun v => (as.all (fun a => !hot dep a) || plain dep v) = true ∧ K v s := WB_v ft11 rfl as s K
theorem WB12 (s : St) (as : List AV) (K : AV → St → Prop) : WB ft 12 as s K = WV ft 12 (as.map (snap s.mem dep)) fun v => (as.all (fun a => !hot dep a) || plain dep v) = true ∧ K v s := WB_v ft12 rfl as s K
theorem WB13 (s : St) (as : List AV) (K : AV → St → Prop) : WB ft 13 as s K = WR ft (.f 13) (as.map (snap s.mem dep)) .nil fun v m => (as.all (fun a => !hot dep a) || (ownly dep v && m.blks.all Blk.ownly)) = true ∧
      K (shift s.mem.blks.length s.mem.toks.length dep v) (s.setMem (joinMem s.mem m dep)) := WB_o ft13 rfl as s K
theorem WB14 (s : St) (as : List AV) (K : AV → St → Prop) : WB ft 14 as s K = WV ft 14 (as.map (snap s.mem dep)) fun v => (as.all (fun a => !hot dep a) || plain dep v) = true ∧ K v s := WB_v ft14 rfl as s K
theorem WB15 (s : St) (as : List AV) (K : AV → St → Prop) : WB ft 15 as s K = WV ft 15 (as.map (snap s.mem dep)) fun v => (as.all (fun a => !hot dep a) || plain dep v) = true ∧ K v s := WB_v ft15 rfl as s K
theorem WB16 (s : St) (as : List AV) (K : AV → St → Prop) : WB ft 16 as s K = WV ft 16 (as.map (snap s.mem dep)) fun v => (as.all (fun a => !hot dep a) || plain dep v) = true ∧ K v s := WB_v ft16 rfl as s K
theorem WB17 (s : St) (as : List AV) (K : AV → St → Prop) : WB ft 17 as s K = WV ft 17 (as.map (snap s.mem dep)) fun v => (as.all (fun a => !hot dep a) || plain dep v) = true ∧ K v s := WB_v ft17 rfl as s K
theorem WB18 (s : St) (as : List AV) (K : AV → St → Prop) : WB ft 18 as s K = WV ft 18 (as.map (snap s.mem dep)) fun v => (as.all (fun a => !hot dep a) || plain dep v) = true ∧ K v s := WB_v ft18 rfl as s K
theorem WB19 (s : St) (as : List AV) (K : AV → St → Prop) : WB ft 19 as s K = WV ft 19 (as.map (snap s.mem dep)) fun v => (as.all (fun a => !hot dep a) || plain dep v) = true ∧ K v s := WB_v ft19 rfl as s K
theorem WB20 (s : St) (as : List AV) (K : AV → St → Prop) : WB ft 20 as s K = WV ft 20 (as.map (snap s.mem dep)) fun v => (as.all (fun a => !hot dep a) || plain dep v) = true ∧ K v s := WB_v ft20 rfl as s K
theorem WB21 (s : St) (as : List AV) (K : AV → St → Prop) : WB ft 21 as s K = WV ft 21 (as.map (snap s.mem dep)) fun v => (as.all (fun a => !hot dep a) || plain dep v) = true ∧ K v s := WB_v ft21 rfl as s K
theorem WB22 (s : St) (as : List AV) (K : AV → St → Prop) : WB ft 22 as s K = WV ft 22 (as.map (snap s.mem dep)) fun v => (as.all (fun a => !hot dep a) || plain dep v) = true ∧ K v s := WB_v ft22 rfl as s K
theorem WB23 (s : St) (as : List AV) (K : AV → St → Prop) : WB ft 23 as s K = WV ft 23 (as.map (snap s.mem dep)) fun v => (as.all (fun a => !hot dep a) || plain dep v) = true ∧ K v s := WB_v ft23 rfl as s K
theorem WB24 (s : St) (as : List AV) (K : AV → St → Prop) : WB ft 24 as s K = WV ft 24 (as.map (snap s.mem dep)) fun v => (as.all (fun a => !hot dep a) || plain dep v) = true ∧ K v s := WB_v ft24 rfl as s K
theorem WB25 (s : St) (as : List AV) (K : AV → St → Prop) : WB ft 25 as s K = WV ft 25 (as.map (snap s.mem dep)) fun v => (as.all (fun a => !hot dep a) || plain dep v) = true ∧ K v s := WB_v ft25 rfl as s K
theorem WB26 (s : St) (as : List AV) (K : AV → St → Prop) : WB ft 26 as s K = WV ft 26 (as.map (snap s.mem dep)) fun v => (as.all (fun a => !hot dep a) || plain dep v) = true ∧ K v s := WB_v ft26 rfl as s K
theorem WB27 (s : St) (as : List AV) (K : AV → St → Prop) : WB ft 27 as s K = WV ft 27 (as.map (snap s.mem dep)) fun v => (as.all (fun a => !hot dep a) || plain dep v) = true ∧ K v s := WB_v ft27 rfl as s K
theorem WB28 (s : St) (as : List AV) (K : AV → St → Prop) : WB ft 28 as s K = WV ft 28 (as.map (snap s.mem dep)) fun v => (as.all (fun a => !hot dep a) || plain dep v) = true ∧ K v s := WB_v ft28 rfl as s K
theorem WB29 (s : St) (as : List AV) (K : AV → St → Prop) : WB ft 29 as s K = WV ft 29 (as.map (snap s.mem dep)) fun v => (as.all (fun a => !hot dep a) || plain dep v) = true ∧ K v s := WB_v ft29 rfl as s K
theorem WB30 (s : St) (as : List AV) (K : AV → St → Prop) : WB ft 30 as s K = WV ft 30 (as.map (snap s.mem dep)) fun v => (as.all (fun a => !hot dep a) || plain dep v) = true ∧ K v s := WB_v ft30 rfl as s K
theorem WB31 (s : St) (as : List AV) (K : AV → St → Prop) : WB ft 31 as s K = WV ft 31 (as.map (snap s.mem dep)) fun v => (as.all (fun a => !hot dep a) || plain dep v) = true ∧ K v s := WB_v ft31 rfl as s K
theorem WB32 (s : St) (as : List AV) (K : AV → St → Prop) : WB ft 32 as s K = WV ft 32 (as.map (snap s.mem dep)) fun v => (as.all (fun a => !hot dep a) || plain dep v) = true ∧ K v s := WB_v ft32 rfl as s K
theorem WB33 (s : St) (as : List AV) (K : AV → St → Prop) : WB ft 33 as s K = WV ft 33 (as.map (snap s.mem dep)) fun v => (as.all (fun a => !hot dep a) || plain dep v) = true ∧ K v s := WB_v ft33 rfl as s K
theorem WB34 (s : St) (as : List AV) (K : AV → St → Prop) : WB ft 34 as s K = WV ft 34 (as.map (snap s.mem dep)) fun v => (as.all (fun a => !hot dep a) || plain dep v) = true ∧ K v s := WB_v ft34 rfl as s K
theorem WB35 (s : St) (as : List AV) (K : AV → St → Prop) : WB ft 35 as s K = WV ft 35 (as.map (snap s.mem dep)) fun v => (as.all (fun a => !hot dep a) || plain dep v) = true ∧ K v s := WB_v ft35 rfl as s K
theorem WB36 (s : St) (as : List AV) (K : AV → St → Prop) : WB ft 36 as s K = WV ft 36 (as.map (snap s.mem dep)) fun v => (as.all (fun a => !hot dep a) || plain dep v) = true ∧ K v s := WB_v ft36 rfl as s K
theorem WB37 (s : St) (as : List AV) (K : AV → St → Prop) : WB ft 37 as s K = WV ft 37 (as.map (snap s.mem dep)) fun v => (as.all (fun a => !hot dep a) || plain dep v) = true ∧ K v s := WB_v ft37 rfl as s K
theorem WB38 (s : St) (as : List AV) (K : AV → St → Prop) : WB ft 38 as s K = WV ft 38 (as.map (snap s.mem dep)) fun v => (as.all (fun a => !hot dep a) || plain dep v) = true ∧ K v s := WB_v ft38 rfl as s K
theorem WB39 (s : St) (as : List AV) (K : AV → St → Prop) : WB ft 39 as s K = WV ft 39 (as.map (snap s.mem dep)) fun v => (as.all (fun a => !hot dep a) || plain dep v) = true ∧ K v s := WB_v ft39 rfl as s K
theorem WB40 (s : St) (as : List AV) (K : AV → St → Prop) : WB ft 40 as s K = WV ft 40 (as.map (snap s.mem dep)) fun v => (as.all (fun a => !hot dep a) || plain dep v) = true ∧ K v s := WB_v ft40 rfl as s K
theorem WB41 (s : St) (as : List AV) (K : AV → St → Prop) : WB ft 41 as s K = WR ft (.f 41) as s.mem fun v m => K v (s.setMem m) := WB_r ft41 rfl as s K
theorem WB42 (s : St) (as : List AV) (K : AV → St → Prop) : WB ft 42 as s K = WR ft (.f 42) as s.mem fun v m => K v (s.setMem m) := WB_r ft42 rfl as s K
theorem WB43 (s : St) (as : List AV) (K : AV → St → Prop) : WB ft 43 as s K = WR ft (.f 43) as s.mem fun v m => K v (s.setMem m) := WB_r ft43 rfl as s K
theorem WB44 (s : St) (as : List AV) (K : AV → St → Prop) : WB ft 44 as s K = WV ft 44 (as.map (snap s.mem dep)) fun v => (as.all (fun a => !hot dep a) || plain dep v) = true ∧ K v s := WB_v ft44 rfl as s K
theorem WB45 (s : St) (as : List AV) (K : AV → St → Prop) : WB ft 45 as s K = WV ft 45 (as.map (snap s.mem dep)) fun v => (as.all (fun a => !hot dep a) || plain dep v) = true ∧ K v s := WB_v ft45 rfl as s K
theorem WB46 (s : St) (as : List AV) (K : AV → St → Prop) : WB ft 46 as s K = WR ft (.f 46) as s.mem fun v m => K v (s.setMem m) := WB_r ft46 rfl as s K
theorem WB47 (s : St) (as : List AV) (K : AV → St → Prop) : WB ft 47 as s K = WV ft 47 (as.map (snap s.mem dep)) fun v => (as.all (fun a => !hot dep a) || plain dep v) = true ∧ K v s := WB_v ft47 rfl as s K
theorem WB48 (s : St) (as : List AV) (K : AV → St → Prop) : WB ft 48 as s K = WR ft (.f 48) as s.mem fun v m => K v (s.setMem m) := WB_r ft48 rfl as s K
theorem WB49 (s : St) (as : List AV) (K : AV → St → Prop) : WB ft 49 as s K = WR ft (.f 49) as s.mem fun v m => K v (s.setMem m) := WB_r ft49 rfl as s K
theorem WB50 (s : St) (as : List AV) (K : AV → St → Prop) : WB ft 50 as s K = WV ft 50 (as.map (snap s.mem dep)) fun v => (as.all (fun a => !hot dep a) || plain dep v) = true ∧ K v s := WB_v ft50 rfl as s K
theorem WB51 (s : St) (as : List AV) (K : AV → St → Prop) : WB ft 51 as s K = WV ft 51 (as.map (snap s.mem dep)) fun v => (as.all (fun a => !hot dep a) || plain dep v) = true ∧ K v s := WB_v ft51 rfl as s K
theorem WB52 (s : St) (as : List AV) (K : AV → St → Prop) : WB ft 52 as s K = WV ft 52 (as.map (snap s.mem dep)) fun v => (as.all (fun a => !hot dep a) || plain dep v) = true ∧ K v s := WB_v ft52 rfl as s K
theorem WB53 (s : St) (as : List AV) (K : AV → St → Prop) : WB ft 53 as s K = WV ft 53 (as.map (snap s.mem dep)) fun v => (as.all (fun a => !hot dep a) || plain dep v) = true ∧ K v s := WB_v ft53 rfl as s K
theorem WB54 (s : St) (as : List AV) (K : AV → St → Prop) : WB ft 54 as s K = WV ft 54 (as.map (snap s.mem dep)) fun v => (as.all (fun a => !hot dep a) || plain dep v) = true ∧ K v s := WB_v ft54 rfl as s K
theorem WB55 (s : St) (as : List AV) (K : AV → St → Prop) : WB ft 55 as s K = WV ft 55 (as.map (snap s.mem dep)) fun v => (as.all (fun a => !hot dep a) || plain dep v) = true ∧ K v s := WB_v ft55 rfl as s K
theorem WB56 (s : St) (as : List AV) (K : AV → St → Prop) : WB ft 56 as s K = WV ft 56 (as.map (snap s.mem dep)) fun v => (as.all (fun a => !hot dep a) || plain dep v) = true ∧ K v s := WB_v ft56 rfl as s K
theorem WB57 (s : St) (as : List AV) (K : AV → St → Prop) : WB ft 57 as s K = WV ft 57 (as.map (snap s.mem dep)) fun v => (as.all (fun a => !hot dep a) || plain dep v) = true ∧ K v s := WB_v ft57 rfl as s K
theorem WB58 (s : St) (as : List AV) (K : AV → St → Prop) : WB ft 58 as s K = WV ft 58 (as.map (snap s.mem dep)) fun v => (as.all (fun a => !hot dep a) || plain dep v) = true ∧ K v s := WB_v ft58 rfl as s K
theorem WB59 (s : St) (as : List AV) (K : AV → St → Prop) : WB ft 59 as s K = WV ft 59 (as.map (snap s.mem dep)) fun v => (as.all (fun a => !hot dep a) || plain dep v) = true ∧ K v s := WB_v ft59 rfl as s K
theorem WB60 (s : St) (as : List AV) (K : AV → St → Prop) : WB ft 60 as s K = WV ft 60 (as.map (snap s.mem dep)) fun v => (as.all (fun a => !hot dep a) || plain dep v) = true ∧ K v s := WB_v ft60 rfl as s K
theorem WB61 (s : St) (as : List AV) (K : AV → St → Prop) : WB ft 61 as s K = WR ft (.f 61) as s.mem fun v m => K v (s.setMem m) := WB_r ft61 rfl as s K
theorem WB62 (s : St) (as : List AV) (K : AV → St → Prop) : WB ft 62 as s K = WR ft (.f 62) as s.mem fun v m => K v (s.setMem m) := WB_r ft62 rfl as s K
theorem WB63 (s : St) (as : List AV) (K : AV → St → Prop) : WB ft 63 as s K = WR ft (.f 63) as s.mem fun v m => K v (s.setMem m) := WB_r ft63 rfl as s K
theorem WB64 (s : St) (as : List AV) (K : AV → St → Prop) : WB ft 64 as s K = WR ft (.f 64) as s.mem fun v m => K v (s.setMem m) := WB_r ft64 rfl as s K
theorem WB65 (s : St) (as : List AV) (K : AV → St → Prop) : WB ft 65 as s K = WR ft (.f 65) as s.mem fun v m => K v (s.setMem m) := WB_r ft65 rfl as s K
theorem WB66 (s : St) (as : List AV) (K : AV → St → Prop) : WB ft 66 as s K = WR ft (.f 66) as s.mem fun v m => K v (s.setMem m) := WB_r ft66 rfl as s K
theorem WB67 (s : St) (as : List AV) (K : AV → St → Prop) : WB ft 67 as s K = WR ft (.f 67) as s.mem fun v m => K v (s.setMem m) := WB_r ft67 rfl as s K
theorem WB68 (s : St) (as : List AV) (K : AV → St → Prop) : WB ft 68 as s K = WR ft (.f 68) as s.mem fun v m => K v (s.setMem m) := WB_r ft68 rfl as s K
theorem WB69 (s : St) (as : List AV) (K : AV → St → Prop) : WB ft 69 as s K = WR ft (.f 69) (as.map (snap s.mem dep)) .nil fun v m => (as.all (fun a => !hot dep a) || (ownly dep v && m.blks.all Blk.ownly)) = true ∧
      K (shift s.mem.blks.length s.mem.toks.length dep v) (s.setMem (joinMem s.mem m dep)) := WB_o ft69 rfl as s K
theorem WB70 (s : St) (as : List AV) (K : AV → St → Prop) : WB ft 70 as s K = WR ft (.f 70) (as.map (snap s.mem dep)) .nil fun v m => (as.all (fun a => !hot dep a) || (ownly dep v && m.blks.all Blk.ownly)) = true ∧
      K (shift s.mem.blks.length s.mem.toks.length dep v) (s.setMem (joinMem s.mem m dep)) := WB_o ft70 rfl as s K
theorem WB71 (s : St) (as : List AV) (K : AV → St → Prop) : WB ft 71 as s K = WV ft 71 (as.map (snap s.mem dep)) fun v => (as.all (fun a => !hot dep a) || plain dep v) = true ∧ K v s := WB_v ft71 rfl as s K
theorem WB72 (s : St) (as : List AV) (K : AV → St → Prop) : WB ft 72 as s K = WV ft 72 (as.map (snap s.mem dep)) fun v => (as.all (fun a => !hot dep a) || plain dep v) = true ∧ K v s := WB_v ft72 rfl as s K
theorem WB73 (s : St) (as : List AV) (K : AV → St → Prop) : WB ft 73 as s K = WV ft 73 (as.map (snap s.mem dep)) fun v => (as.all (fun a => !hot dep a) || plain dep v) = true ∧ K v s := WB_v ft73 rfl as s K
theorem WB74 (s : St) (as : List AV) (K : AV → St → Prop) : WB ft 74 as s K = WR ft (.f 74) as s.mem fun v m => K v (s.setMem m) := WB_r ft74 rfl as s K
theorem WB75 (s : St) (as : List AV) (K : AV → St → Prop) : WB ft 75 as s K = WV ft 75 (as.map (snap s.mem dep)) fun v => (as.all (fun a => !hot dep a) || plain dep v) = true ∧ K v s := WB_v ft75 rfl as s K
theorem WB76 (s : St) (as : List AV) (K : AV → St → Prop) : WB ft 76 as s K = WR ft (.f 76) as s.mem fun v m => K v (s.setMem m) := WB_r ft76 rfl as s K
theorem WB77 (s : St) (as : List AV) (K : AV → St → Prop) : WB ft 77 as s K = WR ft (.f 77) as s.mem fun v m => K v (s.setMem m) := WB_r ft77 rfl as s K
theorem WF13 (s : St) (as : List AV) (K : AV → St → Prop) : WF ft 13 as s K = WV ft 13 (as.map (snap s.mem dep)) fun v => (as.all (fun a => !hot dep a) || plain dep v) = true ∧ K v s := WF_v ft13 as s K
end Go.Ab.T
end
