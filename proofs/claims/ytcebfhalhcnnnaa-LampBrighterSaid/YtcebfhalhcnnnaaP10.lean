/-
  A part of the proofs over this seat.
  (The texts KlM4 KlK16, one behind the other.)
-/
import Derived.Test.YtcebfhalhcnnnaaP9
set_option linter.unusedSimpArgs false
set_option linter.unusedVariables false
set_option linter.unusedSectionVars false
section
namespace Go.Ab.T
/-! ### A brighter screen -/
def shG (b : Int) (g : Gg) : Gg := ⟨g.hr, g.lo + b, g.hi + b⟩
def shN (b : Int) (x : Ln) : Ln := ⟨x.fu + b, x.fd⟩
def bL (l : Lm) (b : Int) : Lm := ⟨⟨l.fu.lo + b, l.fu.hi + b⟩, l.fd, ⟨l.no.lo + b, l.no.hi + b⟩, l.ra, l.gs.map (shG b), l.wr⟩
theorem lit_sh (b : Int) (x : Ln) (h : Int) : lit (shN b x) h = lit x h + b := by unfold lit shN; dsimp only; omega
theorem inR_sh (n lo hi b : Int) : inR (n + b) (lo + b) (hi + b) = inR n lo hi := by
  rw [Bool.eq_iff_iff, inR_iff, inR_iff]; omega
theorem okG_sh (b : Int) (x : Ln) (g : Gg) : okG (shN b x) (shG b g) = okG x g := by
  unfold okG
  rw [show (shG b g).hr = g.hr from rfl, lit_sh]; exact inR_sh _ _ _ _
theorem wrN_sh (b : Int) (gs : List Gg) (x : Ln) : wrN (gs.map (shG b)) (shN b x) = wrN gs x := by
  induction gs with
  | nil => rfl
  | cons g r ih => rw [List.map_cons, wrN_cons, wrN_cons, ih, okG_sh]
theorem upF_sh (b : Int) : ∀ (n : Nat) (a : Int), upF n (a + b) = (upF n a).map (· + b)
  | 0, _ => rfl
  | n + 1, a => by
    rw [upF, upF, List.map_cons, ← upF_sh b n (a + 1), show a + b + 1 = a + 1 + b by omega]
theorem rgI_sh (lo hi b : Int) : rgI (lo + b) (hi + b) = (rgI lo hi).map (· + b) := by
  unfold rgI; rw [← upF_sh, show hi + b + 1 - (lo + b) = hi + 1 - lo by omega]
theorem linM_sh (l : Lm) (b : Int) : linM (bL l b) = (linM l).map (shN b) := by
  unfold linM
  rw [show (bL l b).fu.lo = l.fu.lo + b from rfl, show (bL l b).fu.hi = l.fu.hi + b from rfl, rgI_sh, List.flatMap_map, List.map_flatMap]
  congr 1
  funext a
  show (rgI l.fd.lo l.fd.hi).map (fun c => (⟨a + b, c⟩ : Ln)) = ((rgI l.fd.lo l.fd.hi).map fun c => (⟨a, c⟩ : Ln)).map (shN b)
  rw [List.map_map]; rfl
theorem isT_sh (l : Lm) (b : Int) (x : Ln) : isT (bL l b) (shN b x) = isT l x := by
  unfold isT
  rw [show (bL l b).gs = l.gs.map (shG b) from rfl, wrN_sh]; rfl
theorem truM_sh (l : Lm) (b : Int) : truM (bL l b) = (truM l).map (shN b) := by
  unfold truM
  rw [linM_sh, List.filter_map]
  congr 1
  exact List.filter_congr fun x _ => isT_sh l b x
theorem blF_sh {p q : Gg → Bool} {f : Gg → Gg} (h : ∀ g, p (f g) = q g) : ∀ (gs : List Gg) (k : Nat), blF p (gs.map f) k = blF q gs k
  | [], _ => rfl
  | g :: r, k => by
    rw [List.map_cons, blF, blF, h, blF_sh h r (k + 1)]
theorem blG_sh (l : Lm) (b : Int) (g : Gg) : blG (bL l b) (shG b g) = blG l g := by
  unfold blG
  rw [truM_sh, List.any_map]
  congr 2
  funext x; exact okG_sh b x g
theorem bm_sh {l : Lm} {b : Int} (h1 : okL l = true) (h2 : okL (bL l b) = true) : bmM (bL l b) = bmM l ∧ beM (bL l b) = beM l := by
  unfold bmM beM
  rw [if_pos h1, if_pos h2, if_pos h1, if_pos h2, truM_sh, List.isEmpty_map]
  refine ⟨?_, rfl⟩
  split
  · rfl
  · exact blF_sh (fun g => blG_sh l b g) l.gs 0
theorem kh_sh {l : Lm} {b : Int} (h1 : okL l = true) (h2 : okL (bL l b) = true) (h : Int) : khM (bL l b) h = khM l h := by
  unfold khM
  rw [if_pos h1, if_pos h2, truM_sh, List.isEmpty_map]
theorem at_sh {l : Lm} {b : Int} {h : Int} (q1 : khM l h = 0) (q2 : khM (bL l b) h = 0) : (atM (bL l b) h).lo = (atM l h).lo + b ∧ (atM (bL l b) h).hi = (atM l h).hi + b := by
  obtain ⟨s1, ⟨x, hx, e1⟩, ⟨y, hy, e2⟩⟩ := at_spec q1
  obtain ⟨t1, ⟨x', hx', e3⟩, ⟨y', hy', e4⟩⟩ := at_spec q2
  rw [truM_sh] at t1 hx' hy'
  obtain ⟨x2, hx2, rfl⟩ := List.mem_map.1 hx'
  obtain ⟨y2, hy2, rfl⟩ := List.mem_map.1 hy'
  have a1 := (t1 (shN b x) (List.mem_map.2 ⟨x, hx, rfl⟩)).1
  have a2 := (t1 (shN b y) (List.mem_map.2 ⟨y, hy, rfl⟩)).2
  have a3 := (s1 x2 hx2).1
  have a4 := (s1 y2 hy2).2
  rw [lit_sh] at a1 a2 e3 e4
  exact ⟨by omega, by omega⟩
theorem bndF_map (num : Ln → Int) (g : Ln → Ln) : ∀ (xs : List Ln) (p : Sp × Bool), bndF num p (xs.map g) = bndF (fun x => num (g x)) p xs
  | [], _ => rfl
  | x :: r, p => by rw [List.map_cons, bndF, bndF, bndF_map num g r]
theorem lkF_sh (l : Lm) (b : Int) (x : Ln) : ∀ (n : Nat) (s k : Int), lkF (bL l b) (shN b x) n s k = lkF l x n s k
  | 0, _, _ => rfl
  | n + 1, s, k => by
    rw [lkF, lkF, lkF_sh l b x n]
    rw [show inS (bL l b).no (lit (shN b x) k) = inS l.no (lit x k) from by rw [lit_sh]; exact inR_sh _ _ _ _]
theorem un_sh {l : Lm} {b : Int} (h1 : okL l = true) (h2 : okL (bL l b) = true) (h : Int) : unM (bL l b) h = unM l h := by
  unfold unM
  rw [kh_sh h1 h2, truM_sh]
  have : bndM (lastK (bL l b) h) ((truM l).map (shN b)) = bndM (lastK l h) (truM l) := by
    unfold bndM
    rw [bndF_map]
    congr 1
    funext x
    exact lkF_sh l b x _ _ _
  rw [this]
end Go.Ab.T
end

section
namespace Go.Ab.T
set_option maxRecDepth 8000
set_option maxHeartbeats 4000000
def tl11_5 : ACode := (.seq (.region [⟨(some 187), none, .mov (.t 18)⟩,
    ⟨(some 188), none, .bin .neq (.t 187) (.c (.int .i64 0))⟩,
    ⟨(some 189), none, .mov (.t 188)⟩,
    ⟨(some 190), some (189, false), .load (.t 19) (some 2)⟩,
    ⟨(some 191), some (189, false), .addr (.t 17) 0⟩,
    ⟨(some 192), some (189, false), .load (.t 191) none⟩,
    ⟨(some 193), some (189, false), .mov (.t 1)⟩,
    ⟨(some 194), some (189, false), .bin .add (.t 192) (.t 193)⟩,
    ⟨(some 195), some (189, false), .addr (.t 17) 1⟩,
    ⟨(some 196), some (189, false), .load (.t 195) none⟩,
    ⟨(some 197), some (189, false), .mov (.t 1)⟩,
    ⟨(some 198), some (189, false), .bin .add (.t 196) (.t 197)⟩,
    ⟨(some 199), some (189, false), .build [(.int .i64 0), (.int .i64 0)] [(0, 1, (.t 194)), (1, 1, (.t 198))]⟩,
    ⟨(some 200), some (189, false), .eqv false true [.i, .i] (.t 190) (.t 199)⟩,
    ⟨(some 201), none, .pick (.t 189) (.c (.bool true)) (.t 200)⟩,
    ⟨(some 202), none, .mov (.t 201)⟩,
    ⟨(some 203), some (202, true), .call 13 []⟩,
    ⟨(some 204), none, .pick (.t 202) (.t 203) (.c (.bool false))⟩,
    ⟨(some 6), none, .mov (.t 204)⟩])
  (.ret))
def tl11_4 : ACode := (.seq (.seq (.region [⟨(some 169), none, .mov (.t 18)⟩,
    ⟨(some 170), none, .mov (.t 20)⟩,
    ⟨(some 171), none, .bin .neq (.t 169) (.t 170)⟩,
    ⟨(some 172), none, .mov (.t 171)⟩,
    ⟨(some 173), some (172, false), .mov (.t 23)⟩,
    ⟨(some 174), some (172, false), .mov (.t 26)⟩,
    ⟨(some 175), some (172, false), .bin .neq (.t 173) (.t 174)⟩,
    ⟨(some 176), none, .pick (.t 172) (.c (.bool true)) (.t 175)⟩,
    ⟨(some 177), none, .mov (.t 176)⟩,
    ⟨(some 178), some (177, false), .mov (.t 21)⟩,
    ⟨(some 179), some (177, false), .mov (.t 24)⟩,
    ⟨(some 180), some (177, false), .bin .neq (.t 178) (.t 179)⟩,
    ⟨(some 181), none, .pick (.t 177) (.c (.bool true)) (.t 180)⟩,
    ⟨(some 182), none, .mov (.t 181)⟩,
    ⟨(some 183), some (182, false), .mov (.t 22)⟩,
    ⟨(some 184), some (182, false), .mov (.t 25)⟩,
    ⟨(some 185), some (182, false), .bin .neq (.t 183) (.t 184)⟩,
    ⟨(some 186), none, .pick (.t 182) (.c (.bool true)) (.t 185)⟩])
  (.cond (.t 186) (.seq (.region [⟨(some 6), none, .mov (.c (.bool false))⟩])
  (.ret))
  (.skip)))
  tl11_5)
def tl11_3 : ACode := (.seq (.region [⟨(some 144), none, .load (.t 3) (some 9)⟩,
    ⟨(some 145), none, .mov (.t 2)⟩,
    ⟨(some 146), none, .call 24 [(.t 144), (.t 145)]⟩,
    ⟨(some 143), none, .mov (.t 146)⟩,
    ⟨(some 147), none, .ext (.t 143) 0⟩,
    ⟨(some 148), none, .ext (.t 143) 1⟩,
    ⟨(some 17), none, .new (.agg [(.int .i64 0), (.int .i64 0)]) 2⟩,
    ⟨none, none, .store (.t 17) (.t 147) 2⟩,
    ⟨(some 18), none, .mov (.t 148)⟩])
  (.seq (.region [⟨(some 150), none, .load (.t 7) (some 9)⟩,
    ⟨(some 151), none, .mov (.t 2)⟩,
    ⟨(some 152), none, .call 24 [(.t 150), (.t 151)]⟩,
    ⟨(some 149), none, .mov (.t 152)⟩,
    ⟨(some 153), none, .ext (.t 149) 0⟩,
    ⟨(some 154), none, .ext (.t 149) 1⟩,
    ⟨(some 19), none, .new (.agg [(.int .i64 0), (.int .i64 0)]) 2⟩,
    ⟨none, none, .store (.t 19) (.t 153) 2⟩,
    ⟨(some 20), none, .mov (.t 154)⟩])
  (.seq (.region [⟨(some 156), none, .load (.t 3) (some 9)⟩,
    ⟨(some 157), none, .mov (.t 2)⟩,
    ⟨(some 158), none, .call 28 [(.t 156), (.t 157)]⟩,
    ⟨(some 155), none, .mov (.t 158)⟩,
    ⟨(some 159), none, .ext (.t 155) 0⟩,
    ⟨(some 160), none, .ext (.t 155) 1⟩,
    ⟨(some 161), none, .ext (.t 155) 2⟩,
    ⟨(some 21), none, .mov (.t 159)⟩,
    ⟨(some 22), none, .mov (.t 160)⟩,
    ⟨(some 23), none, .mov (.t 161)⟩])
  (.seq (.region [⟨(some 163), none, .load (.t 7) (some 9)⟩,
    ⟨(some 164), none, .mov (.t 2)⟩,
    ⟨(some 165), none, .call 28 [(.t 163), (.t 164)]⟩,
    ⟨(some 162), none, .mov (.t 165)⟩,
    ⟨(some 166), none, .ext (.t 162) 0⟩,
    ⟨(some 167), none, .ext (.t 162) 1⟩,
    ⟨(some 168), none, .ext (.t 162) 2⟩,
    ⟨(some 24), none, .mov (.t 166)⟩,
    ⟨(some 25), none, .mov (.t 167)⟩,
    ⟨(some 26), none, .mov (.t 168)⟩])
  tl11_4))))
def tl11_2 : ACode := (.seq (.seq (.region [⟨(some 121), none, .mov (.t 10)⟩,
    ⟨(some 122), none, .bin .neq (.t 121) (.c (.int .i64 0))⟩,
    ⟨(some 123), none, .mov (.t 122)⟩,
    ⟨(some 124), some (123, false), .mov (.t 12)⟩,
    ⟨(some 125), some (123, false), .bin .neq (.t 124) (.c (.int .i64 0))⟩,
    ⟨(some 126), none, .pick (.t 123) (.c (.bool true)) (.t 125)⟩,
    ⟨(some 127), none, .mov (.t 126)⟩,
    ⟨(some 128), some (127, false), .mov (.t 9)⟩,
    ⟨(some 129), some (127, false), .mov (.t 11)⟩,
    ⟨(some 130), some (127, false), .bin .neq (.t 128) (.t 129)⟩,
    ⟨(some 131), none, .pick (.t 127) (.c (.bool true)) (.t 130)⟩,
    ⟨(some 132), none, .mov (.t 131)⟩,
    ⟨(some 133), some (132, false), .mov (.t 14)⟩,
    ⟨(some 134), some (132, false), .mov (.t 16)⟩,
    ⟨(some 135), some (132, false), .bin .neq (.t 133) (.t 134)⟩,
    ⟨(some 136), none, .pick (.t 132) (.c (.bool true)) (.t 135)⟩,
    ⟨(some 137), none, .mov (.t 136)⟩,
    ⟨(some 138), some (137, false), .mov (.t 13)⟩,
    ⟨(some 139), some (137, false), .mov (.t 15)⟩,
    ⟨(some 140), some (137, false), .call 23 [(.t 138), (.t 139)]⟩,
    ⟨(some 141), some (137, false), .not (.t 140)⟩,
    ⟨(some 142), none, .pick (.t 137) (.c (.bool true)) (.t 141)⟩])
  (.cond (.t 142) (.seq (.region [⟨(some 6), none, .mov (.c (.bool false))⟩])
  (.ret))
  (.skip)))
  tl11_3)
def tl11_1 : ACode := (.seq (.seq (.seq (.frz)
  (.region [⟨(some 97), none, .load (.t 7) (some 9)⟩,
    ⟨(some 98), none, .call 32 [(.t 97)]⟩,
    ⟨(some 99), none, .not (.t 98)⟩]))
  (.cond (.t 99) (.seq (.region [⟨(some 100), none, .call 13 []⟩,
    ⟨(some 6), none, .mov (.t 100)⟩])
  (.ret))
  (.skip)))
  (.seq (.region [⟨(some 102), none, .load (.t 3) (some 9)⟩,
    ⟨(some 103), none, .call 15 [(.t 102)]⟩,
    ⟨(some 101), none, .mov (.t 103)⟩,
    ⟨(some 104), none, .ext (.t 101) 0⟩,
    ⟨(some 105), none, .ext (.t 101) 1⟩,
    ⟨(some 9), none, .mov (.t 104)⟩,
    ⟨(some 10), none, .mov (.t 105)⟩])
  (.seq (.region [⟨(some 107), none, .load (.t 7) (some 9)⟩,
    ⟨(some 108), none, .call 15 [(.t 107)]⟩,
    ⟨(some 106), none, .mov (.t 108)⟩,
    ⟨(some 109), none, .ext (.t 106) 0⟩,
    ⟨(some 110), none, .ext (.t 106) 1⟩,
    ⟨(some 11), none, .mov (.t 109)⟩,
    ⟨(some 12), none, .mov (.t 110)⟩])
  (.seq (.region [⟨(some 112), none, .load (.t 3) (some 9)⟩,
    ⟨(some 113), none, .call 19 [(.t 112)]⟩,
    ⟨(some 111), none, .mov (.t 113)⟩,
    ⟨(some 114), none, .ext (.t 111) 0⟩,
    ⟨(some 115), none, .ext (.t 111) 1⟩,
    ⟨(some 13), none, .mov (.t 114)⟩,
    ⟨(some 14), none, .mov (.t 115)⟩])
  (.seq (.region [⟨(some 117), none, .load (.t 7) (some 9)⟩,
    ⟨(some 118), none, .call 19 [(.t 117)]⟩,
    ⟨(some 116), none, .mov (.t 118)⟩,
    ⟨(some 119), none, .ext (.t 116) 0⟩,
    ⟨(some 120), none, .ext (.t 116) 1⟩,
    ⟨(some 15), none, .mov (.t 119)⟩,
    ⟨(some 16), none, .mov (.t 120)⟩])
  tl11_2)))))
def tl11_0 : ACode := (.seq (.seq (.region [⟨(some 8), none, .mov (.c (.int .i64 0))⟩])
  (.block 0 (.loop (.seq (.seq (.region [⟨(some 70), none, .mov (.t 8)⟩,
    ⟨(some 71), none, .addr (.t 7) 7⟩,
    ⟨(some 72), none, .load (.t 71) none⟩,
    ⟨(some 73), none, .len (.t 72)⟩,
    ⟨(some 74), none, .bin .lss (.t 70) (.t 73)⟩])
  (.cond (.t 74) (.skip)
  (.exit 0)))
  (.seq (.block 1 (.seq (.region [⟨(some 77), none, .addr (.t 7) 7⟩,
    ⟨(some 78), none, .load (.t 77) none⟩,
    ⟨(some 79), none, .mov (.t 8)⟩,
    ⟨(some 80), none, .idx (.t 78) (.t 79) 3⟩,
    ⟨(some 81), none, .addr (.t 80) 1⟩,
    ⟨(some 82), none, .load (.t 81) none⟩,
    ⟨(some 83), none, .mov (.t 1)⟩,
    ⟨(some 84), none, .bin .add (.t 82) (.t 83)⟩,
    ⟨(some 85), none, .idx (.t 78) (.t 79) 3⟩,
    ⟨(some 86), none, .addr (.t 85) 1⟩,
    ⟨none, none, .store (.t 86) (.t 84) 1⟩])
  (.region [⟨(some 87), none, .addr (.t 7) 7⟩,
    ⟨(some 88), none, .load (.t 87) none⟩,
    ⟨(some 89), none, .mov (.t 8)⟩,
    ⟨(some 90), none, .idx (.t 88) (.t 89) 3⟩,
    ⟨(some 91), none, .addr (.t 90) 2⟩,
    ⟨(some 92), none, .load (.t 91) none⟩,
    ⟨(some 93), none, .mov (.t 1)⟩,
    ⟨(some 94), none, .bin .add (.t 92) (.t 93)⟩,
    ⟨(some 95), none, .idx (.t 88) (.t 89) 3⟩,
    ⟨(some 96), none, .addr (.t 95) 2⟩,
    ⟨none, none, .store (.t 96) (.t 94) 1⟩])))
  (.region [⟨(some 75), none, .mov (.t 8)⟩,
    ⟨(some 76), none, .bin .add (.t 75) (.c (.int .i64 1))⟩,
    ⟨(some 8), none, .mov (.t 76)⟩]))))))
  tl11_1)
theorem cut11 : c11 = .seq (.region [⟨(some 3), none, .box (.t 0) 9⟩,
    ⟨(some 6), none, .mov (.c (.bool false))⟩])
  (.seq (.seq (.region [⟨(some 27), none, .load (.t 3) (some 9)⟩,
    ⟨(some 28), none, .call 32 [(.t 27)]⟩,
    ⟨(some 29), none, .not (.t 28)⟩,
    ⟨(some 30), none, .mov (.t 29)⟩,
    ⟨(some 31), some (30, false), .mov (.t 2)⟩,
    ⟨(some 32), some (30, false), .call 33 [(.t 31)]⟩,
    ⟨(some 33), some (30, false), .not (.t 32)⟩,
    ⟨(some 34), none, .pick (.t 30) (.c (.bool true)) (.t 33)⟩,
    ⟨(some 35), none, .mov (.t 34)⟩,
    ⟨(some 36), some (35, false), .mov (.t 1)⟩,
    ⟨(some 37), some (35, false), .bin .lss (.t 36) (.c (.int .i64 (-400)))⟩,
    ⟨(some 38), none, .pick (.t 35) (.c (.bool true)) (.t 37)⟩,
    ⟨(some 39), none, .mov (.t 38)⟩,
    ⟨(some 40), some (39, false), .mov (.t 1)⟩,
    ⟨(some 41), some (39, false), .bin .gtr (.t 40) (.c (.int .i64 400))⟩,
    ⟨(some 42), none, .pick (.t 39) (.c (.bool true)) (.t 41)⟩])
  (.cond (.t 42) (.seq (.region [⟨(some 43), none, .call 13 []⟩,
    ⟨(some 6), none, .mov (.t 43)⟩])
  (.ret))
  (.skip)))
  (.seq (.region [⟨(some 44), none, .load (.t 3) (some 9)⟩,
    ⟨(some 45), none, .call 14 [(.t 44)]⟩,
    ⟨(some 7), none, .new (.agg [(.int .i64 0), (.int .i64 0), (.int .i64 0), (.int .i64 0), (.int .i64 0), (.int .i64 0), (.int .i64 0), (.sl [] .tight), (.int .i64 0)]) 9⟩,
    ⟨none, none, .store (.t 7) (.t 45) 9⟩])
  (.seq (.region [⟨(some 46), none, .addr (.t 3) 0⟩,
    ⟨(some 47), none, .addr (.t 46) 0⟩,
    ⟨(some 48), none, .load (.t 47) none⟩,
    ⟨(some 49), none, .mov (.t 1)⟩,
    ⟨(some 50), none, .bin .add (.t 48) (.t 49)⟩,
    ⟨(some 51), none, .addr (.t 3) 0⟩,
    ⟨(some 52), none, .addr (.t 51) 1⟩,
    ⟨(some 53), none, .load (.t 52) none⟩,
    ⟨(some 54), none, .mov (.t 1)⟩,
    ⟨(some 55), none, .bin .add (.t 53) (.t 54)⟩,
    ⟨(some 56), none, .build [(.int .i64 0), (.int .i64 0)] [(0, 1, (.t 50)), (1, 1, (.t 55))]⟩,
    ⟨(some 57), none, .addr (.t 7) 0⟩,
    ⟨none, none, .store (.t 57) (.t 56) 2⟩])
  (.seq (.region [⟨(some 58), none, .addr (.t 3) 4⟩,
    ⟨(some 59), none, .addr (.t 58) 0⟩,
    ⟨(some 60), none, .load (.t 59) none⟩,
    ⟨(some 61), none, .mov (.t 1)⟩,
    ⟨(some 62), none, .bin .add (.t 60) (.t 61)⟩,
    ⟨(some 63), none, .addr (.t 3) 4⟩,
    ⟨(some 64), none, .addr (.t 63) 1⟩,
    ⟨(some 65), none, .load (.t 64) none⟩,
    ⟨(some 66), none, .mov (.t 1)⟩,
    ⟨(some 67), none, .bin .add (.t 65) (.t 66)⟩,
    ⟨(some 68), none, .build [(.int .i64 0), (.int .i64 0)] [(0, 1, (.t 62)), (1, 1, (.t 67))]⟩,
    ⟨(some 69), none, .addr (.t 7) 4⟩,
    ⟨none, none, .store (.t 69) (.t 68) 2⟩])
  tl11_0)))) := rfl
theorem wLG0 (l : Lm) (F a b : AV) : writeCells (encLG l F) 0 [a, b] = some (.agg [a, b, I64 l.fd.lo, I64 l.fd.hi, I64 l.no.lo, I64 l.no.hi, I64 l.ra, F, I64 l.wr]) := rfl
theorem wG1 (g : Gg) (v : AV) : writeCells (encG g) 1 [v] = some (.agg [I64 g.hr, v, I64 g.hi]) := rfl
theorem idx_ref {m : Mem} {id len sz k : Nat} (h : lsz m id = some sz) (hk : k < len) : idxAt m (.ref id 0 len) (I64 (k : Int)) sz = some (.ptr id k 0) := by
  rw [idxAt_ref, if_pos ⟨⟨by omega, by omega⟩, h⟩, Int.toNat_natCast, Nat.zero_add]
theorem eqS' (a b : Sp) (h : a.lo = b.lo ∧ a.hi = b.hi) : eqAV true [.i, .i] (encS a) (encS b) = some true := by
  obtain ⟨a1, a2⟩ := a
  obtain ⟨b1, b2⟩ := b
  obtain ⟨h1, h2⟩ := h
  dsimp only at h1 h2
  subst h1; subst h2
  exact eqS _
theorem LampBrighter_run (l : Lm) (b h : Int) : RV ft 11 [encL l, I64 b, I64 h] (.bool true) := by
  refine RV_of ft11 rfl ?_
  simp only [cut11, r11]
  have hR := ready_ok l
  cases hr : rdM l
  case false =>
    rw [hr] at hR
    simp only [go_sem, Nat.reduceEqDiff, Nat.reduceAdd, Nat.reduceLT, Nat.reduceLeDiff, reduceIte, WB32, WVH_eq hR, true_and, WB13, WVH_eq works_ok]
  obtain ⟨hfar, hok⟩ := rdM_iff hr
  have hv := okL_iff.1 hok
  have h40 := rdM_len hfar
  have hl : l.gs.length < 1073741824 := by omega
  rw [hr] at hR
  have hH := isHourR_ok h
  cases hh : hrR h
  case false =>
    rw [hh] at hH
    simp only [go_sem, Nat.reduceEqDiff, Nat.reduceAdd, Nat.reduceLT, Nat.reduceLeDiff, reduceIte, WB32, WVH_eq hR, WB33, WVH_eq hH, true_and, WB13, WVH_eq works_ok]
  rw [hh] at hH
  cases d1 : decide (b < -400)
  case true => simp only [go_sem, Nat.reduceEqDiff, Nat.reduceAdd, Nat.reduceLT, Nat.reduceLeDiff, reduceIte, WB32, WVH_eq hR, WB33, WVH_eq hH, true_and, d1, WB13, WVH_eq works_ok]
  cases d2 : decide (400 < b)
  case true => simp only [go_sem, Nat.reduceEqDiff, Nat.reduceAdd, Nat.reduceLT, Nat.reduceLeDiff, reduceIte, WB32, WVH_eq hR, WB33, WVH_eq hH, true_and, d1, d2, WB13, WVH_eq works_ok]
  have b0 := of_decide_eq_false d1; have b1 := of_decide_eq_false d2
  obtain ⟨h0, h1⟩ := hrR_iff.1 hh
  have z : ((0 : Int) != 0) = false := rfl
  have z1 : ((0 : Int) == 0) = true := rfl
  obtain ⟨o, ho⟩ : ∃ o, o = bL l b := ⟨_, rfl⟩
  have T5 : ∀ (e : Nat → AV) (bl : List Blk) (tk : List (Nat × Nat)) (i j : Nat), okL o = true → e 1 = I64 b → e 17 = .ptr i 0 0 → e 18 = I64 (khM l h) → e 19 = .ptr j 0 0 → bl[i]? = some (.live [encS (atM l h)] 2) → bl[j]? = some (.live [encS (atM o h)] 2) → W ft tl11_5 ⟨e, ⟨bl, tk⟩⟩ (Fin [.t 6] fun u m => Ab.snap m dep u = .bool true) := by
    intro e bl tk i j hoo g1 g17 g18 g19 hi hj
    simp only [tl11_5]
    by_cases hk : khM l h = 0
    · have hko : khM o h = 0 := by rw [ho, kh_sh hok (ho ▸ hoo)]; exact hk
      have hat := at_sh hk (ho ▸ hko)
      rw [← ho] at hat
      rw [hk] at g18
      obtain ⟨s1, ⟨x, hx, e1⟩, ⟨y, hy, e2⟩⟩ := at_spec hk
      have hbx := lit_bd (linM_NV hv (truM_lin hx)) h0 (show h ≤ 80 by omega)
      have hby := lit_bd (linM_NV hv (truM_lin hy)) h0 (show h ≤ 80 by omega)
      have w1 : IntKind.i64.wrap ((atM l h).lo + b) = (atM l h).lo + b := wrap_i64 _ (by omega) (by omega)
      have w2 : IntKind.i64.wrap ((atM l h).hi + b) = (atM l h).hi + b := wrap_i64 _ (by omega) (by omega)
      simp only [go_sem, Nat.reduceEqDiff, Nat.reduceAdd, Nat.reduceLT, Nat.reduceLeDiff, reduceIte, g1, g17, g18, g19, hi, hj, SCells, z, w1, w2, show AV.agg [I64 ((atM l h).lo + b), I64 ((atM l h).hi + b)] = encS ⟨(atM l h).lo + b, (atM l h).hi + b⟩ from rfl, eqS' _ _ (show (atM o h).lo = (Sp.mk ((atM l h).lo + b) ((atM l h).hi + b)).lo ∧ (atM o h).hi = (Sp.mk ((atM l h).lo + b) ((atM l h).hi + b)).hi from hat), Bool.false_eq_true, if_false, WB13, WVH_eq works_ok, true_and]
    · have hne : (khM l h != 0) = true := by simpa using hk
      simp only [go_sem, Nat.reduceEqDiff, Nat.reduceAdd, Nat.reduceLT, Nat.reduceLeDiff, reduceIte, g1, g17, g18, g19, hi, hj, hne, WB13, WVH_eq works_ok, true_and]
  have T4 : ∀ (e : Nat → AV) (bl : List Blk) (tk : List (Nat × Nat)) (i j : Nat), okL o = true → e 1 = I64 b → e 17 = .ptr i 0 0 → e 18 = I64 (khM l h) → e 19 = .ptr j 0 0 → e 20 = I64 (khM o h) → e 21 = I64 (unM l h).lo → e 22 = I64 (unM l h).hi → e 23 = I64 (khM l h) → e 24 = I64 (unM o h).lo → e 25 = I64 (unM o h).hi → e 26 = I64 (khM o h) → bl[i]? = some (.live [encS (atM l h)] 2) → bl[j]? = some (.live [encS (atM o h)] 2) → W ft tl11_4 ⟨e, ⟨bl, tk⟩⟩ (Fin [.t 6] fun u m => Ab.snap m dep u = .bool true) := by
    intro e bl tk i j hoo g1 g17 g18 g19 g20 g21 g22 g23 g24 g25 g26 hi hj
    simp only [tl11_4]
    have hk : khM o h = khM l h := by rw [ho, kh_sh hok (ho ▸ hoo)]
    have hu : unM o h = unM l h := by rw [ho, un_sh hok (ho ▸ hoo)]
    rw [hk] at g20 g26
    rw [hu] at g24 g25
    simp only [go_sem, Nat.reduceEqDiff, Nat.reduceAdd, Nat.reduceLT, Nat.reduceLeDiff, reduceIte, g1, g17, g18, g19, g20, g21, g22, g23, g24, g25, g26, bne_self_eq_false]
    exact T5 _ _ _ i j hoo (by simp only [go_sem, Nat.reduceEqDiff, Nat.reduceAdd, Nat.reduceLT, Nat.reduceLeDiff, reduceIte, g1]) (by simp only [go_sem, Nat.reduceEqDiff, Nat.reduceAdd, Nat.reduceLT, Nat.reduceLeDiff, reduceIte, g17]) (by simp only [go_sem, Nat.reduceEqDiff, Nat.reduceAdd, Nat.reduceLT, Nat.reduceLeDiff, reduceIte, g18]) (by simp only [go_sem, Nat.reduceEqDiff, Nat.reduceAdd, Nat.reduceLT, Nat.reduceLeDiff, reduceIte, g19]) hi hj
  have T3 : ∀ (e : Nat → AV) (bl : List Blk) (tk : List (Nat × Nat)), okL o = true → e 1 = I64 b → e 2 = I64 h → e 3 = .pv (encL l) 0 → e 7 = .pv (encL o) 0 → W ft tl11_3 ⟨e, ⟨bl, tk⟩⟩ (Fin [.t 6] fun u m => Ab.snap m dep u = .bool true) := by
    intro e bl tk hoo g1 g2 g3 g7
    simp only [tl11_3]
    have hvo := okL_iff.1 hoo
    have hlo : o.gs.length < 1073741824 := by have := hvo.gl; omega
    have hA := At_ok l h hl
    have hB := At_ok o h hlo
    have hU := Until_ok l h hl
    have hV := Until_ok o h hlo
    have hbl : ∀ (x y : Blk), (bl ++ [x] ++ [y]).length = bl.length + 2 := fun x y => by simp
    have hbl1 : ∀ (x : Blk), (bl ++ [x]).length = bl.length + 1 := fun x => by simp
    simp only [go_sem, Nat.reduceEqDiff, Nat.reduceAdd, Nat.reduceLT, Nat.reduceLeDiff, reduceIte, g1, g2, g3, g7, LCells, LEta, SCells, SEta, WB24, WVH_eq hA, WVH_eq hB, WB28, WVH_eq hU, WVH_eq hV, hbl, hbl1, get_last2, get_last2', set_last2', true_and]
    exact T4 _ _ _ bl.length (bl.length + 1) hoo (by simp only [go_sem, Nat.reduceEqDiff, Nat.reduceAdd, Nat.reduceLT, Nat.reduceLeDiff, reduceIte, g1]) (by simp only [go_sem, Nat.reduceEqDiff, Nat.reduceAdd, Nat.reduceLT, Nat.reduceLeDiff, reduceIte]) (by simp only [go_sem, Nat.reduceEqDiff, Nat.reduceAdd, Nat.reduceLT, Nat.reduceLeDiff, reduceIte]) (by simp only [go_sem, Nat.reduceEqDiff, Nat.reduceAdd, Nat.reduceLT, Nat.reduceLeDiff, reduceIte]) (by simp only [go_sem, Nat.reduceEqDiff, Nat.reduceAdd, Nat.reduceLT, Nat.reduceLeDiff, reduceIte]) (by simp only [go_sem, Nat.reduceEqDiff, Nat.reduceAdd, Nat.reduceLT, Nat.reduceLeDiff, reduceIte]) (by simp only [go_sem, Nat.reduceEqDiff, Nat.reduceAdd, Nat.reduceLT, Nat.reduceLeDiff, reduceIte]) (by simp only [go_sem, Nat.reduceEqDiff, Nat.reduceAdd, Nat.reduceLT, Nat.reduceLeDiff, reduceIte]) (by simp only [go_sem, Nat.reduceEqDiff, Nat.reduceAdd, Nat.reduceLT, Nat.reduceLeDiff, reduceIte]) (by simp only [go_sem, Nat.reduceEqDiff, Nat.reduceAdd, Nat.reduceLT, Nat.reduceLeDiff, reduceIte]) (by simp only [go_sem, Nat.reduceEqDiff, Nat.reduceAdd, Nat.reduceLT, Nat.reduceLeDiff, reduceIte]) (get_last2 _ _ _) (get_last2' _ _ _)
  have T2 : ∀ (e : Nat → AV) (bl : List Blk) (tk : List (Nat × Nat)), okL o = true → e 1 = I64 b → e 2 = I64 h → e 3 = .pv (encL l) 0 → e 7 = .pv (encL o) 0 → e 9 = I64 ((truM l).length : Nat) → e 10 = I64 0 → e 11 = I64 ((truM o).length : Nat) → e 12 = I64 0 → e 13 = encIs (bmM l) → e 14 = I64 (beM l) → e 15 = encIs (bmM o) → e 16 = I64 (beM o) → W ft tl11_2 ⟨e, ⟨bl, tk⟩⟩ (Fin [.t 6] fun u m => Ab.snap m dep u = .bool true) := by
    intro e bl tk hoo g1 g2 g3 g7 g9 g10 g11 g12 g13 g14 g15 g16
    simp only [tl11_2]
    obtain ⟨q1, q2⟩ := bm_sh hok (ho ▸ hoo)
    rw [← ho] at q1 q2
    have q3 : (truM o).length = (truM l).length := by rw [ho, truM_sh, List.length_map]
    rw [q3] at g11
    rw [q1] at g15
    rw [q2] at g16
    have hbl : (bmM l).length < 1073741824 := by
      have : (bmM l).length ≤ l.gs.length := by
        unfold bmM
        rw [if_pos hok]
        split
        · simp
        · rw [blF_len]; exact List.length_filter_le _ _
      omega
    have hS := sameInts_ok (bmM l) (bmM l) hbl
    rw [beq_self_eq_true] at hS
    simp only [go_sem, Nat.reduceEqDiff, Nat.reduceAdd, Nat.reduceLT, Nat.reduceLeDiff, reduceIte, g1, g2, g3, g7, g9, g10, g11, g12, g13, g14, g15, g16, z, bne_self_eq_false, WB23, WVH_eq hS, true_and]
    exact T3 _ _ _ hoo (by simp only [go_sem, Nat.reduceEqDiff, Nat.reduceAdd, Nat.reduceLT, Nat.reduceLeDiff, reduceIte, g1]) (by simp only [go_sem, Nat.reduceEqDiff, Nat.reduceAdd, Nat.reduceLT, Nat.reduceLeDiff, reduceIte, g2]) (by simp only [go_sem, Nat.reduceEqDiff, Nat.reduceAdd, Nat.reduceLT, Nat.reduceLeDiff, reduceIte, g3]) (by simp only [go_sem, Nat.reduceEqDiff, Nat.reduceAdd, Nat.reduceLT, Nat.reduceLeDiff, reduceIte, g7])
  have T1 : ∀ (e : Nat → AV) (m : Mem), e 1 = I64 b → e 2 = I64 h → Ab.snap m 12 (e 3) = .pv (encL l) 0 → Ab.snap m 12 (e 7) = .pv (encL o) 0 → W ft tl11_1 ⟨e, m⟩ (Fin [.t 6] fun u m => Ab.snap m dep u = .bool true) := by
    intro e m g1 g2 g3 g7
    rw [tl11_1, W_seq, W_seq, W_seq]
    refine W_frz_of fun e' he m' => ?_
    have k1 := he 1
    have k2 := he 2
    have k3 := he 3
    have k7 := he 7
    simp only [dep_eq] at k1 k2 k3 k7
    simp only [g1, snap_int] at k1
    simp only [g2, snap_int] at k2
    rw [g3] at k3
    rw [g7] at k7
    clear he g1 g2 g3 g7
    obtain ⟨bl, tk⟩ := m'
    have hRo := ready_ok o
    cases hro : rdM o
    case false =>
      rw [hro] at hRo
      simp only [go_sem, Nat.reduceEqDiff, Nat.reduceAdd, Nat.reduceLT, Nat.reduceLeDiff, reduceIte, k1, k2, k3, k7, LCells, LEta, WB32, WVH_eq hRo, true_and, WB13, WVH_eq works_ok]
    rw [hro] at hRo
    obtain ⟨hfo, hoo⟩ := rdM_iff hro
    have hvo := okL_iff.1 hoo
    have hlo : o.gs.length < 1073741824 := by have := hvo.gl; omega
    have hM := Many_ok l hl
    have hMo := Many_ok o hlo
    have hB := Blame_ok l hl
    have hBo := Blame_ok o hlo
    rw [if_pos hok, if_pos hok] at hM
    rw [if_pos hoo, if_pos hoo] at hMo
    simp only [go_sem, Nat.reduceEqDiff, Nat.reduceAdd, Nat.reduceLT, Nat.reduceLeDiff, reduceIte, k1, k2, k3, k7, LCells, LEta, WB32, WVH_eq hRo, WB15, WVH_eq hM, WVH_eq hMo, WB19, WVH_eq hB, WVH_eq hBo, true_and]
    exact T2 _ _ _ hoo (by simp only [go_sem, Nat.reduceEqDiff, Nat.reduceAdd, Nat.reduceLT, Nat.reduceLeDiff, reduceIte, k1]) (by simp only [go_sem, Nat.reduceEqDiff, Nat.reduceAdd, Nat.reduceLT, Nat.reduceLeDiff, reduceIte, k2]) (by simp only [go_sem, Nat.reduceEqDiff, Nat.reduceAdd, Nat.reduceLT, Nat.reduceLeDiff, reduceIte, k3]) (by simp only [go_sem, Nat.reduceEqDiff, Nat.reduceAdd, Nat.reduceLT, Nat.reduceLeDiff, reduceIte, k7]) (by simp only [go_sem, Nat.reduceEqDiff, Nat.reduceAdd, Nat.reduceLT, Nat.reduceLeDiff, reduceIte]) (by simp only [go_sem, Nat.reduceEqDiff, Nat.reduceAdd, Nat.reduceLT, Nat.reduceLeDiff, reduceIte]) (by simp only [go_sem, Nat.reduceEqDiff, Nat.reduceAdd, Nat.reduceLT, Nat.reduceLeDiff, reduceIte]) (by simp only [go_sem, Nat.reduceEqDiff, Nat.reduceAdd, Nat.reduceLT, Nat.reduceLeDiff, reduceIte]) (by simp only [go_sem, Nat.reduceEqDiff, Nat.reduceAdd, Nat.reduceLT, Nat.reduceLeDiff, reduceIte]) (by simp only [go_sem, Nat.reduceEqDiff, Nat.reduceAdd, Nat.reduceLT, Nat.reduceLeDiff, reduceIte]) (by simp only [go_sem, Nat.reduceEqDiff, Nat.reduceAdd, Nat.reduceLT, Nat.reduceLeDiff, reduceIte]) (by simp only [go_sem, Nat.reduceEqDiff, Nat.reduceAdd, Nat.reduceLT, Nat.reduceLeDiff, reduceIte])
  have u0 := hv.u0; have u1 := hv.u1; have u2 := hv.u2; have n0 := hv.n0; have n1 := hv.n1; have n2 := hv.n2
  have x1 : IntKind.i64.wrap (l.fu.lo + b) = l.fu.lo + b := wrap_i64 _ (by omega) (by omega)
  have x2 : IntKind.i64.wrap (l.fu.hi + b) = l.fu.hi + b := wrap_i64 _ (by omega) (by omega)
  have x3 : IntKind.i64.wrap (l.no.lo + b) = l.no.lo + b := wrap_i64 _ (by omega) (by omega)
  have x4 : IntKind.i64.wrap (l.no.hi + b) = l.no.hi + b := wrap_i64 _ (by omega) (by omega)
  have hE : ∀ G, AV.agg [I64 (l.fu.lo + b), I64 (l.fu.hi + b), I64 l.fd.lo, I64 l.fd.hi, I64 (l.no.lo + b), I64 (l.no.hi + b), I64 l.ra, G, I64 l.wr] = encLG o G := fun G => by rw [ho]; rfl
  have hEo : ∀ gs, gs = l.gs.map (shG b) → encL ⟨o.fu, o.fd, o.no, o.ra, gs, o.wr⟩ = encL o := fun gs hg => by rw [hg, ho]; rfl
  simp only [go_sem, Nat.reduceEqDiff, Nat.reduceAdd, Nat.reduceLT, Nat.reduceLeDiff, reduceIte, WB32, WVH_eq hR, WB33, WVH_eq hH, true_and, d1, d2, WB14]
  refine Copy_run l (by omega) _ (fun he => ?_) (fun he => ?_)
  · simp only [go_sem, Nat.reduceEqDiff, Nat.reduceAdd, Nat.reduceLT, Nat.reduceLeDiff, reduceIte, join_c0, shC0 _ _ 8, true_and, encLG_cells, encLG_eta, LCells, SCells, x1, x2, x3, x4, wLG0, hE]
    simp only [tl11_0]
    simp only [go_sem, Nat.reduceEqDiff, Nat.reduceAdd, Nat.reduceLT, Nat.reduceLeDiff, reduceIte, encLG_cells, lenAt_sl]
    refine WL_inv (α := Unit) (fun q e mm => e 1 = I64 b ∧ e 2 = I64 h ∧ e 3 = .ptr 0 0 0 ∧ e 7 = .ptr 4 0 0 ∧ e 8 = I64 0 ∧ mm = ⟨[.live [encL l] 9, .live [encL l] 9, .live [encLG l (.sl [] .tight)] 9, .live [encLG l (.sl [] .tight)] 9, .live [encLG o (.sl [] .tight)] 9], []⟩) (fun q => 0) () ?_ ?_
    · simp only [go_sem, Nat.reduceEqDiff, Nat.reduceAdd, Nat.reduceLT, Nat.reduceLeDiff, reduceIte]
    rintro _ e mm ⟨g1, g2, g3, g7, g8, rfl⟩
    simp only [go_sem, Nat.reduceEqDiff, Nat.reduceAdd, Nat.reduceLT, Nat.reduceLeDiff, reduceIte, g1, g2, g3, g7, g8, encLG_cells, lenAt_sl, show decide ((0 : Int) < ((0 : Nat) : Int)) = false from rfl]
    refine T1 _ _ (by simp only [go_sem, Nat.reduceEqDiff, Nat.reduceAdd, Nat.reduceLT, Nat.reduceLeDiff, reduceIte, g1]) (by simp only [go_sem, Nat.reduceEqDiff, Nat.reduceAdd, Nat.reduceLT, Nat.reduceLeDiff, reduceIte, g2]) ?_ ?_
    · rw [show ∀ (bl : List Blk) (e' : Nat → AV), bl[0]? = some (.live [encL l] 9) → e' 3 = .ptr 0 0 0 → Ab.snap ⟨bl, []⟩ 12 (e' 3) = .pv (encL l) 0 from fun bl e' hb h => by rw [h, snap_box hb, snL _ 7]]
      · rfl
      · simp only [go_sem, Nat.reduceEqDiff, Nat.reduceAdd, Nat.reduceLT, Nat.reduceLeDiff, reduceIte, g3]
    · rw [show ∀ (bl : List Blk) (e' : Nat → AV), bl[4]? = some (.live [encLG o (.sl [] .tight)] 9) → e' 7 = .ptr 4 0 0 → Ab.snap ⟨bl, []⟩ 12 (e' 7) = .pv (encL o) 0 from fun bl e' hb h => by
        rw [h, snap_box hb, snLG _ 9 o (.sl [] .tight) [] rfl, hEo [] (by rw [he]; rfl)]]
      · rfl
      · simp only [go_sem, Nat.reduceEqDiff, Nat.reduceAdd, Nat.reduceLT, Nat.reduceLeDiff, reduceIte, g7]
  · simp only [go_sem, Nat.reduceEqDiff, Nat.reduceAdd, Nat.reduceLT, Nat.reduceLeDiff, reduceIte, join_c1, shC1 _ _ 8, true_and, encLG_cells, encLG_eta, LCells, SCells, x1, x2, x3, x4, wLG0, hE]
    simp only [tl11_0]
    simp only [go_sem, Nat.reduceEqDiff, Nat.reduceAdd, Nat.reduceLT, Nat.reduceLeDiff, reduceIte, encLG_cells]
    refine WL_inv (α := Nat × List Gg) (fun q e mm => e 1 = I64 b ∧ e 2 = I64 h ∧ e 3 = .ptr 0 0 0 ∧ e 7 = .ptr 5 0 0 ∧ e 8 = I64 q.1 ∧ q.1 ≤ l.gs.length ∧ q.2.length = l.gs.length ∧ (∀ j, q.2[j]? = if j < q.1 then l.gs[j]?.map (shG b) else l.gs[j]?) ∧ mm = ⟨[.live [encL l] 9, .live [encL l] 9, .live [encLG l (.ref 4 0 l.gs.length)] 9, .live [encLG l (.ref 4 0 l.gs.length)] 9, .live (q.2.map encG) 3, .live [encLG o (.ref 4 0 l.gs.length)] 9], []⟩) (fun q => l.gs.length - q.1) (0, l.gs) ?_ ?_
    · simp only [go_sem, Nat.reduceEqDiff, Nat.reduceAdd, Nat.reduceLT, Nat.reduceLeDiff, reduceIte]
      exact ⟨trivial, trivial, trivial, trivial, rfl, Nat.zero_le _, trivial, fun j => by simp, trivial⟩
    rintro ⟨k, gk⟩ e mm ⟨g1, g2, g3, g7, g8, hk, hgl, hgk, rfl⟩
    dsimp only at g8 hk hgl hgk
    have hsz : ∀ es : List AV, lsz ⟨[Blk.live [encL l] 9, .live [encL l] 9, .live [encLG l (.ref 4 0 l.gs.length)] 9, .live [encLG l (.ref 4 0 l.gs.length)] 9, .live es 3, .live [encLG o (.ref 4 0 l.gs.length)] 9], []⟩ 4 = some 3 := fun _ => rfl
    by_cases hlt : k < l.gs.length
    · obtain ⟨g, hg⟩ : ∃ g, l.gs[k]? = some g := ⟨l.gs[k], by simp [hlt]⟩
      have hgg := hv.gg g (List.mem_of_getElem? hg)
      have hkk : gk[k]? = some g := by rw [hgk, if_neg (by omega)]; exact hg
      have hmk : (gk.map encG)[k]? = some (encG g) := by rw [List.getElem?_map, hkk]; rfl
      have hset : ∀ X : AV, ((gk.map encG).set k X)[k]? = some X := fun X => by
        rw [List.getElem?_set_self (by rw [List.length_map]; omega)]
      have hss : ∀ X Y : AV, ((gk.map encG).set k X).set k Y = (gk.map encG).set k Y := fun X Y => List.set_set ..
      have w1 : IntKind.i64.wrap (g.lo + b) = g.lo + b := wrap_i64 _ (by omega) (by omega)
      have w2 : IntKind.i64.wrap (g.hi + b) = g.hi + b := wrap_i64 _ (by omega) (by omega)
      have hix : ∀ es : List AV, idxAt ⟨[Blk.live [encL l] 9, .live [encL l] 9, .live [encLG l (.ref 4 0 l.gs.length)] 9, .live [encLG l (.ref 4 0 l.gs.length)] 9, .live es 3, .live [encLG o (.ref 4 0 l.gs.length)] 9], []⟩ (.ref 4 0 l.gs.length) (I64 (k : Int)) 3 = some (.ptr 4 k 0) := fun es => idx_ref (hsz es) hlt
      have hfin : (gk.map encG).set k (.agg [I64 g.hr, I64 (g.lo + b), I64 (g.hi + b)]) = (gk.set k (shG b g)).map encG := by rw [List.map_set]; rfl
      simp only [go_sem, Nat.reduceEqDiff, Nat.reduceAdd, Nat.reduceLT, Nat.reduceLeDiff, reduceIte, g1, g2, g3, g7, g8, encLG_cells, hsz, dec_lt hlt, hix, hmk, GCells, wG1, w1, w2, hset, hss, hfin, wrap_n1 k (by omega)]
      refine Nx_of (k + 1, gk.set k (shG b g)) (by show l.gs.length - (k + 1) < l.gs.length - k; omega) ?_
      simp only [go_sem, Nat.reduceEqDiff, Nat.reduceAdd, Nat.reduceLT, Nat.reduceLeDiff, reduceIte, g1, g2, g3, g7]
      refine ⟨trivial, trivial, trivial, trivial, trivial, by omega, by rw [List.length_set]; exact hgl, fun j => ?_, trivial⟩
      by_cases hj : j = k
      · subst hj
        rw [List.getElem?_set_self (by omega), if_pos (by omega), hg]; rfl
      · rw [List.getElem?_set_ne (fun h => hj h.symm), hgk]
        by_cases hj2 : j < k
        · rw [if_pos hj2, if_pos (by omega)]
        · rw [if_neg hj2, if_neg (by omega)]
    · have hkn : k = l.gs.length := by omega
      have hge : gk = l.gs.map (shG b) := by
        apply List.ext_getElem?
        intro j
        rw [hgk, List.getElem?_map]
        by_cases hj : j < k
        · rw [if_pos hj]
        · rw [if_neg hj, List.getElem?_eq_none (by omega)]; rfl
      simp only [go_sem, Nat.reduceEqDiff, Nat.reduceAdd, Nat.reduceLT, Nat.reduceLeDiff, reduceIte, g1, g2, g3, g7, g8, encLG_cells, hsz, dec_ge (show l.gs.length ≤ k by omega)]
      refine T1 _ _ (by simp only [go_sem, Nat.reduceEqDiff, Nat.reduceAdd, Nat.reduceLT, Nat.reduceLeDiff, reduceIte, g1]) (by simp only [go_sem, Nat.reduceEqDiff, Nat.reduceAdd, Nat.reduceLT, Nat.reduceLeDiff, reduceIte, g2]) ?_ ?_
      · rw [show ∀ (bl : List Blk) (e' : Nat → AV), bl[0]? = some (.live [encL l] 9) → e' 3 = .ptr 0 0 0 → Ab.snap ⟨bl, []⟩ 12 (e' 3) = .pv (encL l) 0 from fun bl e' hb h => by rw [h, snap_box hb, snL _ 7]]
        · rfl
        · simp only [go_sem, Nat.reduceEqDiff, Nat.reduceAdd, Nat.reduceLT, Nat.reduceLeDiff, reduceIte, g3]
      · rw [show ∀ (bl : List Blk) (e' : Nat → AV), bl[4]? = some (.live (gk.map encG) 3) → bl[5]? = some (.live [encLG o (.ref 4 0 l.gs.length)] 9) → e' 7 = .ptr 5 0 0 → Ab.snap ⟨bl, []⟩ 12 (e' 7) = .pv (encL o) 0 from fun bl e' h4 hb h => by
          rw [h, snap_box hb, snLG _ 9 o (.ref 4 0 l.gs.length) gk (sn_ref h4 (by rw [List.length_map]; omega) (by rw [List.take_of_length_le (by rw [List.length_map]; omega)]) 7), hEo gk hge]]
        · rfl
        · rfl
        · simp only [go_sem, Nat.reduceEqDiff, Nat.reduceAdd, Nat.reduceLT, Nat.reduceLeDiff, reduceIte, g7]
end Go.Ab.T
end
