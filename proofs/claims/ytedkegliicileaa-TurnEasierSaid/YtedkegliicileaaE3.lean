/-
  A part of the proofs over this seat.
  (The texts KyM1 KyK1 KyK2 KyK3 KyK4 KyM2 KyK5, one behind the other.)
-/
import Derived.Test.YtedkegliicileaaA0
import Derived.Test.YtedkegliicileaaE1
set_option linter.unusedSimpArgs false
set_option linter.unusedVariables false
set_option linter.unusedSectionVars false
section
namespace Go.Ab.T
structure Sp where
  lo : Int
  hi : Int
structure Hs where
  teams : Int
  walk : Int
  early : Int
  foyer : Int
  doors : Sp
  clean : Sp
structure Sl where
  screen : Int
  bg : Int
  runs : Sp
  crowd : Int
  team : Int
structure Ev where
  enter : Int
  seated : Int
  start : Int
  empty : Int
  ready : Int
/-- How many minutes a crowd passes the doors. -/
def pas (c r : Int) : Int := (c + r - 1).tdiv r
theorem pas_div {c r : Int} (hc : 0 ≤ c) (hr : 1 ≤ r) : pas c r = (c + r - 1) / r := by
  unfold pas; rw [Int.tdiv_eq_ediv_of_nonneg (by omega)]
theorem pas_nn {c r : Int} (hc : 0 ≤ c) (hr : 1 ≤ r) : 0 ≤ pas c r := by
  rw [pas_div hc hr]; exact Int.ediv_nonneg (by omega) (by omega)
theorem pas_le {c r : Int} (hc : 0 ≤ c) (hr : 1 ≤ r) : pas c r ≤ c := by
  rw [pas_div hc hr]
  have : c + r - 1 < (c + 1) * r := by
    have h1 : (c + 1) * r = c * r + r := by rw [Int.add_mul, Int.one_mul]
    have h2 : c * 1 ≤ c * r := Int.mul_le_mul_of_nonneg_left hr hc
    omega
  have := Int.ediv_lt_of_lt_mul (by omega) this
  omega
theorem pas_mono {c r r' : Int} (hc : 0 ≤ c) (hr : 1 ≤ r) (hrr : r ≤ r') : pas c r' ≤ pas c r := by
  have h0 := pas_nn hc hr
  have h1 : c + r - 1 < (pas c r + 1) * r := by
    rw [pas_div hc hr]; exact Int.lt_ediv_add_one_mul_self _ (by omega)
  have h2 : c + r' - 1 < (pas c r + 1) * r' := by
    have e1 : (pas c r + 1) * r = pas c r * r + r := by rw [Int.add_mul, Int.one_mul]
    have e2 : (pas c r + 1) * r' = pas c r * r' + r' := by rw [Int.add_mul, Int.one_mul]
    have := Int.mul_le_mul_of_nonneg_left hrr h0
    omega
  have := Int.ediv_lt_of_lt_mul (by omega) h2
  rw [pas_div (r := r') hc (by omega)]; omega
/-- What happens with a slot: the crowd comes, the screen is clean, the team is done. -/
def evOf (come bg pa run clean rd id : Int) : Ev :=
  ⟨max come rd, max come rd + pa, max bg (max come rd + pa), max bg (max come rd + pa) + run + pa, max (max bg (max come rd + pa) + run + pa) id + clean⟩
def Ev.le (a b : Ev) : Prop := a.enter ≤ b.enter ∧ a.seated ≤ b.seated ∧ a.start ≤ b.start ∧ a.empty ≤ b.empty ∧ a.ready ≤ b.ready
theorem evOf_mono {come bg pa run clean rd id pa' run' clean' rd' id' : Int} (h1 : pa ≤ pa') (h2 : run ≤ run') (h3 : clean ≤ clean') (h4 : rd ≤ rd') (h5 : id ≤ id') :
    (evOf come bg pa run clean rd id).le (evOf come bg pa' run' clean' rd' id') := by
  unfold Ev.le evOf; dsimp only; omega
def comeOf (early : Int) (s : Sl) : Int := max 0 (s.bg - early)
def setI (f : Int → Int) (k v : Int) : Int → Int := fun n => if n = k then v else f n
/-- A slot in a case: how long it runs, how long it is cleaned. -/
structure It where
  s : Sl
  run : Int
  clean : Int
def evIt (early rate : Int) (x : It) (rd id : Int → Int) : Ev := evOf (comeOf early x.s) x.s.bg (pas x.s.crowd rate) x.run x.clean (rd x.s.screen) (id x.s.team)
/-- What happens with slots, one after the other. -/
def sim (early rate walk : Int) : List It → (Int → Int) → (Int → Int) → List Ev
  | [], _, _ => []
  | x :: l, rd, id => evIt early rate x rd id :: sim early rate walk l (setI rd x.s.screen (evIt early rate x rd id).ready) (setI id x.s.team ((evIt early rate x rd id).ready + walk))
theorem sim_len (early rate walk : Int) : ∀ (l : List It) (rd id : Int → Int), (sim early rate walk l rd id).length = l.length
  | [], _, _ => rfl
  | x :: l, rd, id => by simp [sim, sim_len early rate walk l]
/-- A slot that is as early and as quick. -/
structure It.le (x y : It) : Prop where
  scr : x.s.screen = y.s.screen
  bg : x.s.bg = y.s.bg
  crowd : x.s.crowd = y.s.crowd
  team : x.s.team = y.s.team
  run : x.run ≤ y.run
  clean : x.clean ≤ y.clean
  nn : 0 ≤ x.s.crowd
theorem setI_le {f g : Int → Int} (h : ∀ k, f k ≤ g k) {k k' v w : Int} (hk : k = k') (hv : v ≤ w) : ∀ n, setI f k v n ≤ setI g k' w n := by
  intro n; subst hk; unfold setI; split
  · exact hv
  · exact h n
theorem evIt_mono {early rate rate' : Int} {x y : It} (h : x.le y) (hr : 1 ≤ rate') (hrr : rate' ≤ rate) {rd id rd' id' : Int → Int} (h1 : ∀ k, rd k ≤ rd' k) (h2 : ∀ k, id k ≤ id' k) : (evIt early rate x rd id).le (evIt early rate' y rd' id') := by
  unfold evIt comeOf
  rw [h.bg, h.crowd, h.scr, h.team]
  exact evOf_mono (pas_mono (by rw [← h.crowd]; exact h.nn) hr hrr) h.run h.clean (h1 _) (h2 _)
theorem sim_mono {early rate rate' walk walk' : Int} (hr : 1 ≤ rate') (hrr : rate' ≤ rate) (hw : walk ≤ walk') : ∀ {l l' : List It} (_ : l.length = l'.length) (_ : ∀ (i : Nat) x y, l[i]? = some x → l'[i]? = some y → x.le y) {rd id rd' id' : Int → Int} (_ : ∀ k, rd k ≤ rd' k) (_ : ∀ k, id k ≤ id' k),
    ∀ (i : Nat) a b, (sim early rate walk l rd id)[i]? = some a → (sim early rate' walk' l' rd' id')[i]? = some b → a.le b
  | [], l', _, _, rd, id, rd', id', _, _, i, a, b, ha, _ => by simp [sim] at ha
  | x :: l, [], hl, _, _, _, _, _, _, _, _, _, _, _, _ => by simp at hl
  | x :: l, y :: l', hl, hx, rd, id, rd', id', h1, h2, i, a, b, ha, hb => by
    have hxy : x.le y := hx 0 x y rfl rfl
    have hm := evIt_mono (early := early) hxy hr hrr h1 h2
    cases i with
    | zero => simp [sim] at ha hb; subst ha; subst hb; exact hm
    | succ i =>
      simp only [sim, List.getElem?_cons_succ] at ha hb
      exact sim_mono hr hrr hw (by simpa using hl) (fun j x y hx' hy' => hx (j + 1) x y hx' hy') (setI_le h1 hxy.scr hm.2.2.2.2) (setI_le h2 hxy.team (by have := hm.2.2.2.2; omega)) i a b ha hb
/-- A pace: with hi everything is the latest. -/
def Sp.of (hi : Bool) (s : Sp) : Int := if hi then s.hi else s.lo
def rateOf (h : Hs) (hi : Bool) : Int := if hi then h.doors.lo else h.doors.hi
def itOf (h : Hs) (hi : Bool) (s : Sl) : It := ⟨s, s.runs.of hi, h.clean.of hi⟩
def simH (h : Hs) (hi : Bool) (l : List Sl) (rd id : Int → Int) : List Ev := sim h.early (rateOf h hi) h.walk (l.map (itOf h hi)) rd id
def evH (h : Hs) (hi : Bool) (s : Sl) (rd id : Int → Int) : Ev := evIt h.early (rateOf h hi) (itOf h hi s) rd id
theorem simH_nil (h : Hs) (hi : Bool) (rd id : Int → Int) : simH h hi [] rd id = [] := rfl
theorem simH_cons (h : Hs) (hi : Bool) (s : Sl) (l : List Sl) (rd id : Int → Int) : simH h hi (s :: l) rd id = evH h hi s rd id :: simH h hi l (setI rd s.screen (evH h hi s rd id).ready) (setI id s.team ((evH h hi s rd id).ready + h.walk)) := rfl
def zeroI : Int → Int := fun _ => 0
/-! ### What is valid -/
def inR (n lo hi : Int) : Bool := decide (lo ≤ n) && decide (n ≤ hi)
def spR (s : Sp) (lo hi : Int) : Bool := decide (lo ≤ s.lo) && (decide (s.lo ≤ s.hi) && decide (s.hi ≤ hi))
theorem inR_iff {n lo hi : Int} : inR n lo hi = true ↔ lo ≤ n ∧ n ≤ hi := by simp [inR]
theorem spR_iff {s : Sp} {lo hi : Int} : spR s lo hi = true ↔ lo ≤ s.lo ∧ s.lo ≤ s.hi ∧ s.hi ≤ hi := by simp [spR]
def houseOK (h : Hs) : Bool := inR h.teams 1 4 && (inR h.walk 0 60 && (inR h.early 0 120 && (inR h.foyer 0 5000 && (spR h.doors 1 100 && spR h.clean 1 120))))
def slotOK (h : Hs) (s : Sl) : Bool := inR s.screen 0 5 && (spR s.runs 1 400 && (inR s.crowd 0 500 && inR s.team 0 (h.teams - 1)))
structure HV (h : Hs) : Prop where
  t0 : 1 ≤ h.teams
  t1 : h.teams ≤ 4
  w0 : 0 ≤ h.walk
  w1 : h.walk ≤ 60
  e0 : 0 ≤ h.early
  e1 : h.early ≤ 120
  f0 : 0 ≤ h.foyer
  f1 : h.foyer ≤ 5000
  d0 : 1 ≤ h.doors.lo
  d1 : h.doors.lo ≤ h.doors.hi
  d2 : h.doors.hi ≤ 100
  c0 : 1 ≤ h.clean.lo
  c1 : h.clean.lo ≤ h.clean.hi
  c2 : h.clean.hi ≤ 120
theorem houseOK_iff {h : Hs} : houseOK h = true ↔ HV h := by
  unfold houseOK
  simp only [Bool.and_eq_true, inR_iff, spR_iff]
  constructor
  · rintro ⟨⟨a, b⟩, ⟨c, d⟩, ⟨e, f⟩, ⟨g, i⟩, ⟨j, k, l⟩, m, n, o⟩; exact ⟨a, b, c, d, e, f, g, i, j, k, l, m, n, o⟩
  · rintro ⟨a, b, c, d, e, f, g, i, j, k, l, m, n, o⟩; exact ⟨⟨a, b⟩, ⟨c, d⟩, ⟨e, f⟩, ⟨g, i⟩, ⟨j, k, l⟩, m, n, o⟩
structure SV (h : Hs) (s : Sl) : Prop where
  s0 : 0 ≤ s.screen
  s1 : s.screen ≤ 5
  r0 : 1 ≤ s.runs.lo
  r1 : s.runs.lo ≤ s.runs.hi
  r2 : s.runs.hi ≤ 400
  c0 : 0 ≤ s.crowd
  c1 : s.crowd ≤ 500
  t0 : 0 ≤ s.team
  t1 : s.team ≤ h.teams - 1
theorem slotOK_iff {h : Hs} {s : Sl} : slotOK h s = true ↔ SV h s := by
  unfold slotOK
  simp only [Bool.and_eq_true, inR_iff, spR_iff]
  constructor
  · rintro ⟨⟨a, b⟩, ⟨c, d, e⟩, ⟨f, g⟩, i, j⟩; exact ⟨a, b, c, d, e, f, g, i, j⟩
  · rintro ⟨a, b, c, d, e, f, g, i, j⟩; exact ⟨⟨a, b⟩, ⟨c, d, e⟩, ⟨f, g⟩, i, j⟩
/-- A slot that comes too early behind another one. -/
def bad2 (b s : Sl) : Bool := decide (s.bg < b.bg) || (s.bg == b.bg && s.screen == b.screen)
def behind (l : List Sl) (s : Sl) : Bool := !(l.any fun b => bad2 b s)
def vSgo (h : Hs) : List Sl → List Sl → Bool
  | _, [] => true
  | pre, s :: r => slotOK h s && (inR s.bg 0 2000 && (behind pre s && vSgo h (pre ++ [s]) r))
def vS (h : Hs) (l : List Sl) : Bool := decide (l.length ≤ 12) && vSgo h [] l
/-- All is valid. -/
structure LV (h : Hs) (l : List Sl) : Prop where
  H : HV h
  len : l.length ≤ 12
  S : ∀ s ∈ l, SV h s
  b0 : ∀ s ∈ l, 0 ≤ s.bg
  b1 : ∀ s ∈ l, s.bg ≤ 2000
  asc : ∀ (i j : Nat) a b, i < j → l[i]? = some a → l[j]? = some b → a.bg ≤ b.bg ∧ ¬(a.bg = b.bg ∧ a.screen = b.screen)
def chk (h : Hs) (l : List Sl) : Int := if houseOK h then (if vS h l then 0 else 61) else 60
theorem behind_iff {l : List Sl} {s : Sl} : behind l s = true ↔ ∀ b ∈ l, b.bg ≤ s.bg ∧ ¬(b.bg = s.bg ∧ b.screen = s.screen) := by
  unfold behind bad2
  simp only [Bool.not_eq_true', List.any_eq_false, Bool.or_eq_true, decide_eq_true_eq, Bool.and_eq_true, beq_iff_eq]
  constructor
  · intro h b hb
    have := h b hb
    exact ⟨by omega, fun ⟨h1, h2⟩ => this (.inr ⟨h1.symm, h2.symm⟩)⟩
  · intro h b hb hn
    have := h b hb
    rcases hn with hn | ⟨h1, h2⟩
    · omega
    · exact this.2 ⟨h1.symm, h2.symm⟩
theorem vSgo_iff {h : Hs} : ∀ {r pre : List Sl}, vSgo h pre r = true ↔ (∀ s ∈ r, SV h s ∧ 0 ≤ s.bg ∧ s.bg ≤ 2000) ∧ (∀ (j : Nat) b, r[j]? = some b → ∀ a, a ∈ pre ++ r.take j → a.bg ≤ b.bg ∧ ¬(a.bg = b.bg ∧ a.screen = b.screen))
  | [], pre => by simp [vSgo]
  | s :: r, pre => by
    simp only [vSgo, Bool.and_eq_true, slotOK_iff, inR_iff, behind_iff, vSgo_iff (r := r)]
    constructor
    · rintro ⟨h1, ⟨h2, h3⟩, h4, h5, h6⟩
      refine ⟨fun x hx => ?_, fun j b hj a ha => ?_⟩
      · rcases List.mem_cons.1 hx with rfl | hx
        · exact ⟨h1, h2, h3⟩
        · exact h5 x hx
      · cases j with
        | zero => simp at hj ha; subst hj; exact h4 a ha
        | succ j => exact h6 j b (by simpa using hj) a (by simpa using ha)
    · rintro ⟨h1, h2⟩
      refine ⟨(h1 s (by simp)).1, (h1 s (by simp)).2, fun b hb => h2 0 s rfl b (by simpa using hb), fun x hx => h1 x (by simp [hx]), fun j b hj a ha => h2 (j + 1) b (by simpa using hj) a (by simpa using ha)⟩
theorem vS_iff {h : Hs} {l : List Sl} (hH : HV h) : vS h l = true ↔ LV h l := by
  unfold vS
  rw [Bool.and_eq_true, decide_eq_true_eq, vSgo_iff]
  constructor
  · rintro ⟨h1, h2, h3⟩
    refine ⟨hH, h1, fun s hs => (h2 s hs).1, fun s hs => (h2 s hs).2.1, fun s hs => (h2 s hs).2.2, fun i j a b hij hi hj => h3 j b hj a ?_⟩
    rw [List.nil_append, List.mem_iff_getElem?]
    exact ⟨i, by rw [List.getElem?_take_of_lt hij]; exact hi⟩
  · rintro ⟨_, h1, h2, h3, h4, h5⟩
    refine ⟨h1, fun s hs => ⟨h2 s hs, h3 s hs, h4 s hs⟩, fun j b hj a ha => ?_⟩
    rw [List.nil_append, List.mem_iff_getElem?] at ha
    obtain ⟨i, hi⟩ := ha
    have hij : i < j := by
      have := (List.getElem?_eq_some_iff.1 hi).1
      simp at this; omega
    rw [List.getElem?_take_of_lt hij] at hi
    exact h5 i j a b hij hi hj
theorem chk_0 {h : Hs} {l : List Sl} : chk h l = 0 ↔ LV h l := by
  unfold chk
  constructor
  · intro hc
    split at hc
    · rename_i h1
      split at hc
      · rename_i h2; exact (vS_iff (houseOK_iff.1 h1)).1 h2
      · cases hc
    · cases hc
  · intro hV
    rw [if_pos (houseOK_iff.2 hV.H), if_pos ((vS_iff hV.H).2 hV)]
theorem chk_cases (h : Hs) (l : List Sl) : chk h l = 0 ∨ chk h l = 60 ∨ chk h l = 61 := by
  unfold chk; split
  · split <;> simp
  · simp
end Go.Ab.T
end

section
namespace Go.Ab.T
set_option maxRecDepth 8000
set_option maxHeartbeats 4000000
def encP (s : Sp) : AV := .agg [I64 s.lo, I64 s.hi]
def encH (h : Hs) : AV := .agg [I64 h.teams, I64 h.walk, I64 h.early, I64 h.foyer, I64 h.doors.lo, I64 h.doors.hi, I64 h.clean.lo, I64 h.clean.hi]
def encS (s : Sl) : AV := .agg [I64 s.screen, I64 s.bg, I64 s.runs.lo, I64 s.runs.hi, I64 s.crowd, I64 s.team]
theorem PCells (s : Sp) : (encP s).cells = [I64 s.lo, I64 s.hi] := rfl
theorem PEta (s : Sp) : AV.agg [I64 s.lo, I64 s.hi] = encP s := rfl
theorem snP (m : Mem) (q : Nat) (s : Sp) : snap m (q + 2) (encP s) = encP s := rfl
theorem hotP (q : Nat) (s : Sp) : hot (q + 2) (encP s) = false := rfl
theorem HCells (h : Hs) : (encH h).cells = [I64 h.teams, I64 h.walk, I64 h.early, I64 h.foyer, I64 h.doors.lo, I64 h.doors.hi, I64 h.clean.lo, I64 h.clean.hi] := rfl
theorem HEta (h : Hs) : AV.agg [I64 h.teams, I64 h.walk, I64 h.early, I64 h.foyer, I64 h.doors.lo, I64 h.doors.hi, I64 h.clean.lo, I64 h.clean.hi] = encH h := rfl
theorem snH (m : Mem) (q : Nat) (h : Hs) : snap m (q + 2) (encH h) = encH h := rfl
theorem hotH (q : Nat) (h : Hs) : hot (q + 2) (encH h) = false := rfl
theorem SCells (s : Sl) : (encS s).cells = [I64 s.screen, I64 s.bg, I64 s.runs.lo, I64 s.runs.hi, I64 s.crowd, I64 s.team] := rfl
theorem SEta (s : Sl) : AV.agg [I64 s.screen, I64 s.bg, I64 s.runs.lo, I64 s.runs.hi, I64 s.crowd, I64 s.team] = encS s := rfl
theorem snS (m : Mem) (q : Nat) (s : Sl) : snap m (q + 2) (encS s) = encS s := rfl
theorem hotS (q : Nat) (s : Sl) : hot (q + 2) (encS s) = false := rfl
theorem wrap_n1 (k : Nat) (h : k < 4611686018427387904) : IntKind.i64.wrap ((k : Int) + 1) = ((k + 1 : Nat) : Int) := by rw [wrap_i64 _ (by omega) (by omega)]; omega
theorem within_ok (n lo hi : Int) : RV ft 40 [I64 n, I64 lo, I64 hi] (.bool (inR n lo hi)) := by
  refine RV_of ft40 rfl ?_
  simp only [c40, r40]
  unfold inR
  cases h : decide (lo ≤ n) <;> simp only [go_sem, Nat.reduceEqDiff, Nat.reduceAdd, Nat.reduceLT, Nat.reduceLeDiff, reduceIte, and_self, decide_true, decide_false, beq_self_eq_true, h, Bool.true_and, Bool.false_and]
theorem isWithin_ok (n lo hi : Int) : RV ft 49 [I64 n, I64 lo, I64 hi] (.bool (inR n lo hi)) := by
  refine RV_of ft49 rfl ?_
  simp only [c49, r49]
  unfold inR
  cases h : decide (lo ≤ n) <;> simp only [go_sem, Nat.reduceEqDiff, Nat.reduceAdd, Nat.reduceLT, Nat.reduceLeDiff, reduceIte, and_self, decide_true, decide_false, beq_self_eq_true, h, Bool.true_and, Bool.false_and]
theorem isSpan_ok (s : Sp) (lo hi : Int) : RV ft 53 [encP s, I64 lo, I64 hi] (.bool (spR s lo hi)) := by
  refine RV_of ft53 rfl ?_
  simp only [c53, r53]
  unfold spR
  cases h : decide (lo ≤ s.lo)
  · simp only [go_sem, Nat.reduceEqDiff, Nat.reduceAdd, Nat.reduceLT, Nat.reduceLeDiff, reduceIte, and_self, decide_true, decide_false, beq_self_eq_true, PCells, h]
  cases h2 : decide (s.lo ≤ s.hi) <;> simp only [go_sem, Nat.reduceEqDiff, Nat.reduceAdd, Nat.reduceLT, Nat.reduceLeDiff, reduceIte, and_self, decide_true, decide_false, beq_self_eq_true, PCells, h, h2]
theorem isSpanWithin_ok (s : Sp) (lo hi : Int) : RV ft 65 [encP s, I64 lo, I64 hi] (.bool (spR s lo hi)) := by
  refine RV_of ft65 rfl ?_
  simp only [c65, r65]
  unfold spR
  cases h : decide (lo ≤ s.lo)
  · simp only [go_sem, Nat.reduceEqDiff, Nat.reduceAdd, Nat.reduceLT, Nat.reduceLeDiff, reduceIte, and_self, decide_true, decide_false, beq_self_eq_true, PCells, h]
  cases h2 : decide (s.lo ≤ s.hi) <;> simp only [go_sem, Nat.reduceEqDiff, Nat.reduceAdd, Nat.reduceLT, Nat.reduceLeDiff, reduceIte, and_self, decide_true, decide_false, beq_self_eq_true, PCells, h, h2]
theorem IsHouse_ok (h : Hs) : RV ft 52 [encH h] (.bool (houseOK h)) := by
  refine RV_of ft52 rfl ?_
  simp only [c52, r52]
  unfold houseOK
  cases h1 : inR h.teams 1 4
  · simp only [go_sem, Nat.reduceEqDiff, Nat.reduceAdd, Nat.reduceLT, Nat.reduceLeDiff, reduceIte, and_self, decide_true, decide_false, beq_self_eq_true, HCells, WB40, WVH_eq (within_ok _ _ _), h1, true_and]
  cases h2 : inR h.walk 0 60
  · simp only [go_sem, Nat.reduceEqDiff, Nat.reduceAdd, Nat.reduceLT, Nat.reduceLeDiff, reduceIte, and_self, decide_true, decide_false, beq_self_eq_true, HCells, WB40, WVH_eq (within_ok _ _ _), h1, h2, true_and]
  cases h3 : inR h.early 0 120
  · simp only [go_sem, Nat.reduceEqDiff, Nat.reduceAdd, Nat.reduceLT, Nat.reduceLeDiff, reduceIte, and_self, decide_true, decide_false, beq_self_eq_true, HCells, WB40, WVH_eq (within_ok _ _ _), h1, h2, h3, true_and]
  cases h4 : inR h.foyer 0 5000
  · simp only [go_sem, Nat.reduceEqDiff, Nat.reduceAdd, Nat.reduceLT, Nat.reduceLeDiff, reduceIte, and_self, decide_true, decide_false, beq_self_eq_true, HCells, WB40, WVH_eq (within_ok _ _ _), h1, h2, h3, h4, true_and]
  cases h5 : spR h.doors 1 100
  · simp only [go_sem, Nat.reduceEqDiff, Nat.reduceAdd, Nat.reduceLT, Nat.reduceLeDiff, reduceIte, and_self, decide_true, decide_false, beq_self_eq_true, HCells, WB40, WVH_eq (within_ok _ _ _), h1, h2, h3, h4, PEta, WB53, snP, hotP, WVH_eq (isSpan_ok _ _ _), h5, true_and]
  simp only [go_sem, Nat.reduceEqDiff, Nat.reduceAdd, Nat.reduceLT, Nat.reduceLeDiff, reduceIte, and_self, decide_true, decide_false, beq_self_eq_true, HCells, WB40, WVH_eq (within_ok _ _ _), h1, h2, h3, h4, PEta, WB53, snP, hotP, WVH_eq (isSpan_ok _ _ _), h5, true_and]
theorem validHouse_ok (h : Hs) : RV ft 56 [encH h] (.bool (houseOK h)) := by
  refine RV_of ft56 rfl ?_
  simp only [c56, r56]
  unfold houseOK
  cases h1 : inR h.teams 1 4
  · simp only [go_sem, Nat.reduceEqDiff, Nat.reduceAdd, Nat.reduceLT, Nat.reduceLeDiff, reduceIte, and_self, decide_true, decide_false, beq_self_eq_true, HCells, WB49, WVH_eq (isWithin_ok _ _ _), h1, true_and]
  cases h2 : inR h.walk 0 60
  · simp only [go_sem, Nat.reduceEqDiff, Nat.reduceAdd, Nat.reduceLT, Nat.reduceLeDiff, reduceIte, and_self, decide_true, decide_false, beq_self_eq_true, HCells, WB49, WVH_eq (isWithin_ok _ _ _), h1, h2, true_and]
  cases h3 : inR h.early 0 120
  · simp only [go_sem, Nat.reduceEqDiff, Nat.reduceAdd, Nat.reduceLT, Nat.reduceLeDiff, reduceIte, and_self, decide_true, decide_false, beq_self_eq_true, HCells, WB49, WVH_eq (isWithin_ok _ _ _), h1, h2, h3, true_and]
  cases h4 : inR h.foyer 0 5000
  · simp only [go_sem, Nat.reduceEqDiff, Nat.reduceAdd, Nat.reduceLT, Nat.reduceLeDiff, reduceIte, and_self, decide_true, decide_false, beq_self_eq_true, HCells, WB49, WVH_eq (isWithin_ok _ _ _), h1, h2, h3, h4, true_and]
  cases h5 : spR h.doors 1 100
  · simp only [go_sem, Nat.reduceEqDiff, Nat.reduceAdd, Nat.reduceLT, Nat.reduceLeDiff, reduceIte, and_self, decide_true, decide_false, beq_self_eq_true, HCells, WB49, WVH_eq (isWithin_ok _ _ _), h1, h2, h3, h4, PEta, WB65, snP, hotP, WVH_eq (isSpanWithin_ok _ _ _), h5, true_and]
  simp only [go_sem, Nat.reduceEqDiff, Nat.reduceAdd, Nat.reduceLT, Nat.reduceLeDiff, reduceIte, and_self, decide_true, decide_false, beq_self_eq_true, HCells, WB49, WVH_eq (isWithin_ok _ _ _), h1, h2, h3, h4, PEta, WB65, snP, hotP, WVH_eq (isSpanWithin_ok _ _ _), h5, true_and]
theorem IsSlot_ok (h : Hs) (s : Sl) (ht : HV h) : RV ft 28 [encH h, encS s] (.bool (slotOK h s)) := by
  refine RV_of ft28 rfl ?_
  simp only [c28, r28]
  unfold slotOK
  have w : IntKind.i64.wrap (h.teams - 1) = h.teams - 1 := wrap_i64 _ (by have := ht.t0; omega) (by have := ht.t1; omega)
  cases h1 : inR s.screen 0 5
  · simp only [go_sem, Nat.reduceEqDiff, Nat.reduceAdd, Nat.reduceLT, Nat.reduceLeDiff, reduceIte, and_self, decide_true, decide_false, beq_self_eq_true, HCells, SCells, WB40, WVH_eq (within_ok _ _ _), h1, true_and]
  cases h2 : spR s.runs 1 400
  · simp only [go_sem, Nat.reduceEqDiff, Nat.reduceAdd, Nat.reduceLT, Nat.reduceLeDiff, reduceIte, and_self, decide_true, decide_false, beq_self_eq_true, HCells, SCells, WB40, WVH_eq (within_ok _ _ _), h1, PEta, WB53, snP, hotP, WVH_eq (isSpan_ok _ _ _), h2, true_and]
  cases h3 : inR s.crowd 0 500
  · simp only [go_sem, Nat.reduceEqDiff, Nat.reduceAdd, Nat.reduceLT, Nat.reduceLeDiff, reduceIte, and_self, decide_true, decide_false, beq_self_eq_true, HCells, SCells, WB40, WVH_eq (within_ok _ _ _), h1, PEta, WB53, snP, hotP, WVH_eq (isSpan_ok _ _ _), h2, h3, true_and]
  simp only [go_sem, Nat.reduceEqDiff, Nat.reduceAdd, Nat.reduceLT, Nat.reduceLeDiff, reduceIte, and_self, decide_true, decide_false, beq_self_eq_true, HCells, SCells, WB40, WVH_eq (within_ok _ _ _), h1, PEta, WB53, snP, hotP, WVH_eq (isSpan_ok _ _ _), h2, h3, w, true_and]
theorem canBeSlot_ok (h : Hs) (s : Sl) (ht : HV h) : RV ft 54 [encH h, encS s] (.bool (slotOK h s)) := by
  refine RV_of ft54 rfl ?_
  simp only [c54, r54]
  unfold slotOK
  have w : IntKind.i64.wrap (h.teams - 1) = h.teams - 1 := wrap_i64 _ (by have := ht.t0; omega) (by have := ht.t1; omega)
  cases h1 : inR s.screen 0 5
  · simp only [go_sem, Nat.reduceEqDiff, Nat.reduceAdd, Nat.reduceLT, Nat.reduceLeDiff, reduceIte, and_self, decide_true, decide_false, beq_self_eq_true, HCells, SCells, WB49, WVH_eq (isWithin_ok _ _ _), h1, true_and]
  cases h2 : spR s.runs 1 400
  · simp only [go_sem, Nat.reduceEqDiff, Nat.reduceAdd, Nat.reduceLT, Nat.reduceLeDiff, reduceIte, and_self, decide_true, decide_false, beq_self_eq_true, HCells, SCells, WB49, WVH_eq (isWithin_ok _ _ _), h1, PEta, WB65, snP, hotP, WVH_eq (isSpanWithin_ok _ _ _), h2, true_and]
  cases h3 : inR s.crowd 0 500
  · simp only [go_sem, Nat.reduceEqDiff, Nat.reduceAdd, Nat.reduceLT, Nat.reduceLeDiff, reduceIte, and_self, decide_true, decide_false, beq_self_eq_true, HCells, SCells, WB49, WVH_eq (isWithin_ok _ _ _), h1, PEta, WB65, snP, hotP, WVH_eq (isSpanWithin_ok _ _ _), h2, h3, true_and]
  simp only [go_sem, Nat.reduceEqDiff, Nat.reduceAdd, Nat.reduceLT, Nat.reduceLeDiff, reduceIte, and_self, decide_true, decide_false, beq_self_eq_true, HCells, SCells, WB49, WVH_eq (isWithin_ok _ _ _), h1, PEta, WB65, snP, hotP, WVH_eq (isSpanWithin_ok _ _ _), h2, h3, w, true_and]
theorem passes_ok (c r : Int) (hc : 0 ≤ c) (hc1 : c ≤ 500) (hr : 1 ≤ r) (hr1 : r ≤ 100) : RV ft 48 [I64 c, I64 r] (I64 (pas c r)) := by
  refine RV_of ft48 rfl ?_
  simp only [c48, r48]
  have w1 : IntKind.i64.wrap (c + r) = c + r := wrap_i64 _ (by omega) (by omega)
  have w2 : IntKind.i64.wrap (c + r - 1) = c + r - 1 := wrap_i64 _ (by omega) (by omega)
  have w3 : IntKind.i64.wrap ((c + r - 1).tdiv r) = pas c r := by
    have h1 := pas_nn hc hr
    have h2 := pas_le hc hr
    exact wrap_i64 _ (by unfold pas at h1; omega) (by unfold pas at h2; omega)
  have hne : decide (r = 0) = false := decide_eq_false (by omega)
  simp only [go_sem, Nat.reduceEqDiff, Nat.reduceAdd, Nat.reduceLT, Nat.reduceLeDiff, reduceIte, and_self, decide_true, decide_false, beq_self_eq_true, w1, w2, hne, w3]
/-! ### The pace -/
def fnv (hi : Bool) : AV := .fn 70 [] [.pv (.fn (if hi then 68 else 67) [] []) 0]
def encC (h : Hs) (hi : Bool) : AV := .agg [I64 (rateOf h hi), I64 (h.clean.of hi), fnv hi]
theorem CCells (h : Hs) (hi : Bool) : (encC h hi).cells = [I64 (rateOf h hi), I64 (h.clean.of hi), fnv hi] := rfl
theorem CEta (h : Hs) (hi : Bool) : AV.agg [I64 (rateOf h hi), I64 (h.clean.of hi), fnv hi] = encC h hi := rfl
theorem snFn (m : Mem) (q : Nat) (hi : Bool) : snap m (q + 3) (fnv hi) = fnv hi := rfl
theorem hotFn (q : Nat) (hi : Bool) : hot (q + 3) (fnv hi) = false := rfl
theorem solid_fnv (hi : Bool) : (fnv hi).solid = true := rfl
theorem cells_fnv (hi : Bool) : (fnv hi).cells = [fnv hi] := rfl
theorem snC (m : Mem) (q : Nat) (h : Hs) (hi : Bool) : snap m (q + 4) (encC h hi) = encC h hi := rfl
theorem hotC (q : Nat) (h : Hs) (hi : Bool) : hot (q + 4) (encC h hi) = false := rfl
theorem lo_ok (s : Sp) : RV ft 67 [encP s] (I64 s.lo) := by
  refine RV_of ft67 rfl ?_
  simp only [c67, r67]
  simp only [go_sem, Nat.reduceEqDiff, Nat.reduceAdd, Nat.reduceLT, Nat.reduceLeDiff, reduceIte, and_self, decide_true, decide_false, beq_self_eq_true, PCells]
theorem hi_ok (s : Sp) : RV ft 68 [encP s] (I64 s.hi) := by
  refine RV_of ft68 rfl ?_
  simp only [c68, r68]
  simp only [go_sem, Nat.reduceEqDiff, Nat.reduceAdd, Nat.reduceLT, Nat.reduceLeDiff, reduceIte, and_self, decide_true, decide_false, beq_self_eq_true, PCells]
theorem runs_ok (hi : Bool) (s : Sl) : RV ft 70 [encS s, .pv (.fn (if hi then 68 else 67) [] []) 0] (I64 (s.runs.of hi)) := by
  refine RV_of ft70 rfl ?_
  simp only [c70, r70]
  cases hi
  · simp only [go_sem, Nat.reduceEqDiff, Nat.reduceAdd, Nat.reduceLT, Nat.reduceLeDiff, reduceIte, and_self, decide_true, decide_false, beq_self_eq_true, SCells, Bool.false_eq_true, if_false, PEta, WB67, snP, hotP, WVH_eq (lo_ok _), true_and, Sp.of]
  · simp only [go_sem, Nat.reduceEqDiff, Nat.reduceAdd, Nat.reduceLT, Nat.reduceLeDiff, reduceIte, and_self, decide_true, decide_false, beq_self_eq_true, SCells, if_true, PEta, WB68, snP, hotP, WVH_eq (hi_ok _), true_and, Sp.of]
theorem newPace_ok (h : Hs) (hi : Bool) : RV ft 66 [encH h, I64 (rateOf h hi), .fn (if hi then 68 else 67) [] []] (encC h hi) := by
  refine RV_of ft66 rfl ?_
  simp only [c66, r66]
  cases hi
  · simp only [go_sem, Nat.reduceEqDiff, Nat.reduceAdd, Nat.reduceLT, Nat.reduceLeDiff, reduceIte, and_self, decide_true, decide_false, beq_self_eq_true, HCells, Bool.false_eq_true, if_false, PEta, WB67, snP, hotP, WVH_eq (lo_ok _), true_and, Sp.of]
    rfl
  · simp only [go_sem, Nat.reduceEqDiff, Nat.reduceAdd, Nat.reduceLT, Nat.reduceLeDiff, reduceIte, and_self, decide_true, decide_false, beq_self_eq_true, HCells, if_true, PEta, WB68, snP, hotP, WVH_eq (hi_ok _), true_and, Sp.of]
    rfl
theorem fastest_ok (h : Hs) : RV ft 61 [encH h] (encC h false) := by
  refine RV_of ft61 rfl ?_
  simp only [c61, r61]
  have := newPace_ok h false
  simp only [Bool.false_eq_true, if_false, rateOf] at this
  simp only [go_sem, Nat.reduceEqDiff, Nat.reduceAdd, Nat.reduceLT, Nat.reduceLeDiff, reduceIte, and_self, decide_true, decide_false, beq_self_eq_true, HCells, HEta, WB66, snH, hotH, WVH_eq this, true_and, CCells, solid_fnv, cells_fnv, snFn]
  rfl
theorem slowest_ok (h : Hs) : RV ft 62 [encH h] (encC h true) := by
  refine RV_of ft62 rfl ?_
  simp only [c62, r62]
  have := newPace_ok h true
  simp only [if_true, rateOf] at this
  simp only [go_sem, Nat.reduceEqDiff, Nat.reduceAdd, Nat.reduceLT, Nat.reduceLeDiff, reduceIte, and_self, decide_true, decide_false, beq_self_eq_true, HCells, HEta, WB66, snH, hotH, WVH_eq this, true_and, CCells, solid_fnv, cells_fnv, snFn]
  rfl
theorem passing_ok (h : Hs) (hi : Bool) (c : Int) (hc : 0 ≤ c) (hc1 : c ≤ 500) (hr : 1 ≤ rateOf h hi) (hr1 : rateOf h hi ≤ 100) : RV ft 63 [encC h hi, I64 c] (I64 (pas c (rateOf h hi))) := by
  refine RV_of ft63 rfl ?_
  simp only [c63, r63]
  generalize hrr : rateOf h hi = r at *
  have w1 : IntKind.i64.wrap (c + r) = c + r := wrap_i64 _ (by omega) (by omega)
  have w2 : IntKind.i64.wrap (c + r - 1) = c + r - 1 := wrap_i64 _ (by omega) (by omega)
  have w3 : IntKind.i64.wrap ((c + r - 1).tdiv r) = pas c r := by
    have h1 := pas_nn hc hr
    have h2 := pas_le hc hr
    exact wrap_i64 _ (by unfold pas at h1; omega) (by unfold pas at h2; omega)
  have hne : decide (r = 0) = false := decide_eq_false (by omega)
  simp only [go_sem, Nat.reduceEqDiff, Nat.reduceAdd, Nat.reduceLT, Nat.reduceLeDiff, reduceIte, and_self, decide_true, decide_false, beq_self_eq_true, CCells, solid_fnv, cells_fnv, hrr, w1, w2, hne, w3]
end Go.Ab.T
end

section
namespace Go.Ab.T
set_option maxRecDepth 8000
set_option maxHeartbeats 4000000
def encV (h : Hs) (hi : Bool) (rd id : Int → Int) : AV := .agg [I64 h.teams, I64 h.walk, I64 h.early, I64 h.foyer, I64 h.doors.lo, I64 h.doors.hi, I64 h.clean.lo, I64 h.clean.hi,
  I64 (rateOf h hi), I64 (h.clean.of hi), fnv hi, I64 (rd 0), I64 (rd 1), I64 (rd 2), I64 (rd 3), I64 (rd 4), I64 (rd 5), I64 (id 0), I64 (id 1), I64 (id 2), I64 (id 3)]
section
variable (h : Hs) (hi : Bool) (rd id : Int → Int)
theorem V_len : (encV h hi rd id).cells.length = 21 := rfl
theorem V_solid : (encV h hi rd id).cells.all AV.solid = true := rfl
theorem V_c0 : (encV h hi rd id).cells[0]? = some (I64 h.teams) := rfl
theorem V_c1 : (encV h hi rd id).cells[1]? = some (I64 h.walk) := rfl
theorem V_c2 : (encV h hi rd id).cells[2]? = some (I64 h.early) := rfl
theorem V_c8 : (encV h hi rd id).cells[8]? = some (I64 (rateOf h hi)) := rfl
theorem V_c9 : (encV h hi rd id).cells[9]? = some (I64 (h.clean.of hi)) := rfl
theorem V_c10 : (encV h hi rd id).cells[10]? = some (fnv hi) := rfl
theorem V_d8 : ((encV h hi rd id).cells.drop 8).take 3 = [I64 (rateOf h hi), I64 (h.clean.of hi), fnv hi] := rfl
theorem V_take : (encV h hi rd id).cells.take 21 = (encV h hi rd id).cells := rfl
theorem V_drop : (encV h hi rd id).cells.drop 21 = [] := rfl
theorem V_eta : AV.agg (encV h hi rd id).cells = encV h hi rd id := rfl
theorem snV (m : Mem) (q : Nat) : snap m (q + 4) (encV h hi rd id) = encV h hi rd id := rfl
theorem hotV (q : Nat) : hot (q + 4) (encV h hi rd id) = false := rfl
theorem V_rd {k : Int} (h0 : 0 ≤ k) (h1 : k ≤ 5) : (encV h hi rd id).cells[11 + k.toNat]? = some (I64 (rd k)) := by
  rcases (by omega : k = 0 ∨ k = 1 ∨ k = 2 ∨ k = 3 ∨ k = 4 ∨ k = 5) with rfl | rfl | rfl | rfl | rfl | rfl <;> rfl
theorem V_id {k : Int} (h0 : 0 ≤ k) (h1 : k ≤ 3) : (encV h hi rd id).cells[17 + k.toNat]? = some (I64 (id k)) := by
  rcases (by omega : k = 0 ∨ k = 1 ∨ k = 2 ∨ k = 3) with rfl | rfl | rfl | rfl <;> rfl
theorem V_wrd {k v : Int} (h0 : 0 ≤ k) (h1 : k ≤ 5) : writeCells (encV h hi rd id) (11 + k.toNat) [I64 v] = some (encV h hi (setI rd k v) id) := by
  rcases (by omega : k = 0 ∨ k = 1 ∨ k = 2 ∨ k = 3 ∨ k = 4 ∨ k = 5) with rfl | rfl | rfl | rfl | rfl | rfl <;> rfl
theorem V_wid {k v : Int} (h0 : 0 ≤ k) (h1 : k ≤ 3) : writeCells (encV h hi rd id) (17 + k.toNat) [I64 v] = some (encV h hi rd (setI id k v)) := by
  rcases (by omega : k = 0 ∨ k = 1 ∨ k = 2 ∨ k = 3) with rfl | rfl | rfl | rfl <;> rfl
end
def Bd (c : Int) (f : Int → Int) : Prop := ∀ k, 0 ≤ f k ∧ f k ≤ c
theorem Bd.set {c c' : Int} {f : Int → Int} (h : Bd c f) (hc : c ≤ c') {k v : Int} (h0 : 0 ≤ v) (h1 : v ≤ c') : Bd c' (setI f k v) := by
  intro n; unfold setI; split
  · exact ⟨h0, h1⟩
  · have := h n; omega
theorem Bd.mono {c c' : Int} {f : Int → Int} (h : Bd c f) (hc : c ≤ c') : Bd c' f := fun n => by have := h n; omega
theorem Bd_zero {c : Int} (hc : 0 ≤ c) : Bd c zeroI := fun _ => ⟨Int.le_refl _, hc⟩
def encT (come : Int) (e : Ev) : AV := .agg [I64 come, I64 e.enter, I64 e.seated, I64 e.start, I64 e.empty, I64 e.ready]
theorem TCells (come : Int) (e : Ev) : (encT come e).cells = [I64 come, I64 e.enter, I64 e.seated, I64 e.start, I64 e.empty, I64 e.ready] := rfl
theorem TEta (come : Int) (e : Ev) : AV.agg [I64 come, I64 e.enter, I64 e.seated, I64 e.start, I64 e.empty, I64 e.ready] = encT come e := rfl
theorem snT (m : Mem) (q : Nat) (come : Int) (e : Ev) : snap m (q + 2) (encT come e) = encT come e := rfl
theorem hotT (q : Nat) (come : Int) (e : Ev) : hot (q + 2) (encT come e) = false := rfl
theorem rate_b {h : Hs} (hH : HV h) (hi : Bool) : 1 ≤ rateOf h hi ∧ rateOf h hi ≤ 100 := by
  have := hH.d0; have := hH.d1; have := hH.d2
  unfold rateOf; cases hi <;> simp <;> omega
theorem clean_b {h : Hs} (hH : HV h) (hi : Bool) : 1 ≤ h.clean.of hi ∧ h.clean.of hi ≤ 120 := by
  have := hH.c0; have := hH.c1; have := hH.c2
  unfold Sp.of; cases hi <;> simp <;> omega
theorem runs_b {h : Hs} {s : Sl} (hS : SV h s) (hi : Bool) : 1 ≤ s.runs.of hi ∧ s.runs.of hi ≤ 400 := by
  have := hS.r0; have := hS.r1; have := hS.r2
  unfold Sp.of; cases hi <;> simp <;> omega
theorem pas_b {h hh : Hs} {s : Sl} (hH : HV h) (hS : SV hh s) (hi : Bool) : 0 ≤ pas s.crowd (rateOf h hi) ∧ pas s.crowd (rateOf h hi) ≤ 500 := by
  have h1 := pas_nn hS.c0 (rate_b hH hi).1
  have h2 := pas_le hS.c0 (rate_b hH hi).1
  have := hS.c1
  omega
theorem come_b {h : Hs} {s : Sl} (hH : HV h) (hb0 : 0 ≤ s.bg) (hb1 : s.bg ≤ 2000) : 0 ≤ comeOf h.early s ∧ comeOf h.early s ≤ s.bg := by
  have := hH.e0; have := hH.e1
  unfold comeOf; omega
/-- How large an event's minutes can be. -/
theorem ev_b {h hh : Hs} {s : Sl} {rd id : Int → Int} {c : Int} (hH : HV h) (hS : SV hh s) (hb0 : 0 ≤ s.bg) (hb1 : s.bg ≤ 2000) (h1 : Bd c rd) (h2 : Bd c id) (hc : 2000 ≤ c) (hi : Bool) :
    0 ≤ (evH h hi s rd id).enter ∧ (evH h hi s rd id).enter ≤ (evH h hi s rd id).seated ∧ (evH h hi s rd id).seated ≤ (evH h hi s rd id).start ∧ (evH h hi s rd id).start ≤ (evH h hi s rd id).empty ∧ (evH h hi s rd id).empty ≤ (evH h hi s rd id).ready ∧ (evH h hi s rd id).ready ≤ c + 1540 := by
  have := come_b hH hb0 hb1
  have := pas_b hH hS hi
  have := runs_b hS hi
  have := clean_b hH hi
  have := h1 s.screen
  have := h2 s.team
  unfold evH evIt itOf evOf
  dsimp only
  omega
theorem WZH_fnv (hi : Bool) (args : List AV) (s : St) (K : AV → St → Prop) : @WZH ft (fnv hi) args s ⟨K⟩ = WF ft 70 ([] ++ args ++ [.pv (.fn (if hi then 68 else 67) [] []) 0]) s K := rfl
theorem times_okW {h hh : Hs} {s : Sl} {rd id : Int → Int} {c : Int} (hH : HV h) (hHH : HV hh) (hS : SV hh s) (hb0 : 0 ≤ s.bg) (hb1 : s.bg ≤ 2000) (h1 : Bd c rd) (h2 : Bd c id) (hc : 2000 ≤ c) (hc1 : c ≤ 1000000) (hi : Bool) :
    RV ft 45 [encV h hi rd id, encS s] (encT (comeOf h.early s) (evH h hi s rd id)) := by
  refine RV_of ft45 rfl ?_
  simp only [c45, r45]
  have b1 := come_b hH hb0 hb1
  have b2 := pas_b hH hS hi
  have b3 := runs_b hS hi
  have b4 := clean_b hH hi
  have b5 := h1 s.screen
  have b6 := h2 s.team
  have b7 := rate_b hH hi
  have hp := passing_ok h hi s.crowd hS.c0 hS.c1 b7.1 b7.2
  have hr := runs_ok hi s
  have e0 := hH.e0
  have e1 := hH.e1
  have w1 : IntKind.i64.wrap (s.bg - h.early) = s.bg - h.early := wrap_i64 _ (by omega) (by omega)
  have hco : max 0 (s.bg - h.early) = comeOf h.early s := rfl
  have q1 : (0 ≤ s.screen) = True := eq_true hS.s0
  have q2 : (s.screen < 6) = True := eq_true (by have := hS.s1; omega)
  have q3 : (0 ≤ s.team) = True := eq_true hS.t0
  have q4 : (s.team < 4) = True := eq_true (by have := hS.t1; have := hHH.t1; omega)
  have q5 : (((6 : Nat) : Int)) = 6 := rfl
  have q6 : (((4 : Nat) : Int)) = 4 := rfl
  have v1 := V_rd h hi rd id hS.s0 hS.s1
  have v2 := V_id h hi rd id hS.t0 (by have := hS.t1; have := hHH.t1; omega)
  generalize hpa : pas s.crowd (rateOf h hi) = pa at *
  generalize hru : s.runs.of hi = ru at *
  generalize hcl : h.clean.of hi = cl at *
  generalize hrd : rd s.screen = r at *
  generalize hid : id s.team = i at *
  generalize hcm : comeOf h.early s = co at *
  have hce : AV.agg [I64 (rateOf h hi), I64 cl, fnv hi] = encC h hi := by rw [← hcl]; rfl
  have hev : evH h hi s rd id = evOf co s.bg pa ru cl r i := by
    unfold evH evIt itOf; dsimp only; rw [hpa, hru, hcl, hrd, hid, hcm]
  rw [hev]
  have w2 : IntKind.i64.wrap (max co r + pa) = max co r + pa := wrap_i64 _ (by omega) (by omega)
  have w3 : IntKind.i64.wrap (max s.bg (max co r + pa) + ru) = max s.bg (max co r + pa) + ru := wrap_i64 _ (by omega) (by omega)
  have w4 : IntKind.i64.wrap (max s.bg (max co r + pa) + ru + pa) = max s.bg (max co r + pa) + ru + pa := wrap_i64 _ (by omega) (by omega)
  have w5 : IntKind.i64.wrap (max (max s.bg (max co r + pa) + ru + pa) i + cl) = max (max s.bg (max co r + pa) + ru + pa) i + cl := wrap_i64 _ (by omega) (by omega)
  simp only [go_sem, Nat.reduceEqDiff, Nat.reduceAdd, Nat.reduceLT, Nat.reduceLeDiff, reduceIte, and_self, decide_true, decide_false, beq_self_eq_true, V_len, V_solid, V_c1, V_c2, V_c9, V_c10, V_d8, SCells, SEta, Nat.zero_add, w1, hco, q1, q2, q3, q4, q5, q6, Nat.mul_one, v1, v2, hce, hcl, WB63, snC, hotC, WVH_eq hp, true_and, w2, WZH_fnv, WFH_eq ft70, snS, hotS, WVH_eq hr, w3, w4, w5]
  rfl
theorem times_ok {h : Hs} {s : Sl} {rd id : Int → Int} {c : Int} (hH : HV h) (hS : SV h s) (hb0 : 0 ≤ s.bg) (hb1 : s.bg ≤ 2000) (h1 : Bd c rd) (h2 : Bd c id) (hc : 2000 ≤ c) (hc1 : c ≤ 1000000) (hi : Bool) :
    RV ft 45 [encV h hi rd id, encS s] (encT (comeOf h.early s) (evH h hi s rd id)) := times_okW hH hH hS hb0 hb1 h1 h2 hc hc1 hi
end Go.Ab.T
end

section
namespace Go.Ab.T
set_option maxRecDepth 8000
set_option maxHeartbeats 4000000
def encE (e : Ev) : AV := .agg [I64 e.enter, I64 e.seated, I64 e.start, I64 e.empty, I64 e.ready]
theorem ECells (e : Ev) : (encE e).cells = [I64 e.enter, I64 e.seated, I64 e.start, I64 e.empty, I64 e.ready] := rfl
theorem EEta (e : Ev) : AV.agg [I64 e.enter, I64 e.seated, I64 e.start, I64 e.empty, I64 e.ready] = encE e := rfl
theorem snE (m : Mem) (q : Nat) (e : Ev) : snap m (q + 2) (encE e) = encE e := rfl
theorem hotE (q : Nat) (e : Ev) : hot (q + 2) (encE e) = false := rfl
/-- The earliest and the latest minutes of a slot. -/
def encM (p : Ev × Ev) : AV := .agg [I64 p.1.enter, I64 p.2.enter, I64 p.1.seated, I64 p.2.seated, I64 p.1.start, I64 p.2.start, I64 p.1.empty, I64 p.2.empty, I64 p.1.ready, I64 p.2.ready]
theorem MCells (p : Ev × Ev) : (encM p).cells = [I64 p.1.enter, I64 p.2.enter, I64 p.1.seated, I64 p.2.seated, I64 p.1.start, I64 p.2.start, I64 p.1.empty, I64 p.2.empty, I64 p.1.ready, I64 p.2.ready] := rfl
theorem MEta (p : Ev × Ev) : AV.agg [I64 p.1.enter, I64 p.2.enter, I64 p.1.seated, I64 p.2.seated, I64 p.1.start, I64 p.2.start, I64 p.1.empty, I64 p.2.empty, I64 p.1.ready, I64 p.2.ready] = encM p := rfl
theorem snM (m : Mem) (q : Nat) (p : Ev × Ev) : snap m (q + 2) (encM p) = encM p := rfl
theorem hotM (q : Nat) (p : Ev × Ev) : hot (q + 2) (encM p) = false := rfl
def encN (n : Int) : AV := I64 n
def encSs (l : List (Sl)) : AV := .sl (l.map encS) .unk
theorem Ss_len (m : Mem) (l : List (Sl)) : lenAt m (encSs l) = some (I64 l.length) := by
  unfold encSs; rw [lenAt_sl, List.length_map]
theorem Ss_idx (m : Mem) {l : List (Sl)} {k : Nat} {x : Sl} (h : l[k]? = some x) : idxAt m (encSs l) (I64 (k : Int)) 6 = some (.pv (encS x) 0) := by
  unfold encSs; rw [idxAt_sl, if_pos (by omega), Int.toNat_natCast, List.getElem?_map, h]; rfl
theorem snSs (m : Mem) (q : Nat) (l : List (Sl)) : snap m (q + 3) (encSs l) = encSs l := by
  unfold encSs; rw [snap_sl, List.map_map]; congr 1
theorem snSst (m : Mem) (q : Nat) (l : List (Sl)) (tk : Tk) : snap m (q + 3) (.sl (l.map encS) tk) = encSs l := by
  unfold encSs; rw [snap_sl, List.map_map]; congr 1
theorem hotSs (q : Nat) (l : List (Sl)) : hot (q + 3) (encSs l) = false := by
  unfold encSs; rw [hot_sl, List.any_map]; exact List.any_eq_false.2 fun x _ => by simp [hot, encS]
theorem hotSst (q : Nat) (l : List (Sl)) (tk : Tk) : hot (q + 3) (.sl (l.map encS) tk) = false := by
  rw [hot_sl, List.any_map]; exact List.any_eq_false.2 fun x _ => by simp [hot, encS]
theorem solidSs (l : List (Sl)) : (encSs l).solid = true := rfl
theorem cellsSs (l : List (Sl)) : (encSs l).cells = [encSs l] := rfl
theorem elemsSs (m : Mem) (l : List (Sl)) : m.elems (encSs l) = some (l.map encS) := rfl
def encMs (l : List (Ev × Ev)) : AV := .sl (l.map encM) .unk
theorem Ms_len (m : Mem) (l : List (Ev × Ev)) : lenAt m (encMs l) = some (I64 l.length) := by
  unfold encMs; rw [lenAt_sl, List.length_map]
theorem Ms_idx (m : Mem) {l : List (Ev × Ev)} {k : Nat} {x : Ev × Ev} (h : l[k]? = some x) : idxAt m (encMs l) (I64 (k : Int)) 10 = some (.pv (encM x) 0) := by
  unfold encMs; rw [idxAt_sl, if_pos (by omega), Int.toNat_natCast, List.getElem?_map, h]; rfl
theorem snMs (m : Mem) (q : Nat) (l : List (Ev × Ev)) : snap m (q + 3) (encMs l) = encMs l := by
  unfold encMs; rw [snap_sl, List.map_map]; congr 1
theorem snMst (m : Mem) (q : Nat) (l : List (Ev × Ev)) (tk : Tk) : snap m (q + 3) (.sl (l.map encM) tk) = encMs l := by
  unfold encMs; rw [snap_sl, List.map_map]; congr 1
theorem hotMs (q : Nat) (l : List (Ev × Ev)) : hot (q + 3) (encMs l) = false := by
  unfold encMs; rw [hot_sl, List.any_map]; exact List.any_eq_false.2 fun x _ => by simp [hot, encM]
theorem hotMst (q : Nat) (l : List (Ev × Ev)) (tk : Tk) : hot (q + 3) (.sl (l.map encM) tk) = false := by
  rw [hot_sl, List.any_map]; exact List.any_eq_false.2 fun x _ => by simp [hot, encM]
theorem solidMs (l : List (Ev × Ev)) : (encMs l).solid = true := rfl
theorem cellsMs (l : List (Ev × Ev)) : (encMs l).cells = [encMs l] := rfl
theorem elemsMs (m : Mem) (l : List (Ev × Ev)) : m.elems (encMs l) = some (l.map encM) := rfl
def encEs (l : List (Ev)) : AV := .sl (l.map encE) .unk
theorem Es_len (m : Mem) (l : List (Ev)) : lenAt m (encEs l) = some (I64 l.length) := by
  unfold encEs; rw [lenAt_sl, List.length_map]
theorem Es_idx (m : Mem) {l : List (Ev)} {k : Nat} {x : Ev} (h : l[k]? = some x) : idxAt m (encEs l) (I64 (k : Int)) 5 = some (.pv (encE x) 0) := by
  unfold encEs; rw [idxAt_sl, if_pos (by omega), Int.toNat_natCast, List.getElem?_map, h]; rfl
theorem snEs (m : Mem) (q : Nat) (l : List (Ev)) : snap m (q + 3) (encEs l) = encEs l := by
  unfold encEs; rw [snap_sl, List.map_map]; congr 1
theorem snEst (m : Mem) (q : Nat) (l : List (Ev)) (tk : Tk) : snap m (q + 3) (.sl (l.map encE) tk) = encEs l := by
  unfold encEs; rw [snap_sl, List.map_map]; congr 1
theorem hotEs (q : Nat) (l : List (Ev)) : hot (q + 3) (encEs l) = false := by
  unfold encEs; rw [hot_sl, List.any_map]; exact List.any_eq_false.2 fun x _ => by simp [hot, encE]
theorem hotEst (q : Nat) (l : List (Ev)) (tk : Tk) : hot (q + 3) (.sl (l.map encE) tk) = false := by
  rw [hot_sl, List.any_map]; exact List.any_eq_false.2 fun x _ => by simp [hot, encE]
theorem solidEs (l : List (Ev)) : (encEs l).solid = true := rfl
theorem cellsEs (l : List (Ev)) : (encEs l).cells = [encEs l] := rfl
theorem elemsEs (m : Mem) (l : List (Ev)) : m.elems (encEs l) = some (l.map encE) := rfl
def encI (l : List (Int)) : AV := .sl (l.map encN) .unk
theorem I_len (m : Mem) (l : List (Int)) : lenAt m (encI l) = some (I64 l.length) := by
  unfold encI; rw [lenAt_sl, List.length_map]
theorem I_idx (m : Mem) {l : List (Int)} {k : Nat} {x : Int} (h : l[k]? = some x) : idxAt m (encI l) (I64 (k : Int)) 1 = some (.pv (encN x) 0) := by
  unfold encI; rw [idxAt_sl, if_pos (by omega), Int.toNat_natCast, List.getElem?_map, h]; rfl
theorem snI (m : Mem) (q : Nat) (l : List (Int)) : snap m (q + 2) (encI l) = encI l := by
  unfold encI; rw [snap_sl, List.map_map]; congr 1
theorem snIt (m : Mem) (q : Nat) (l : List (Int)) (tk : Tk) : snap m (q + 2) (.sl (l.map encN) tk) = encI l := by
  unfold encI; rw [snap_sl, List.map_map]; congr 1
theorem hotI (q : Nat) (l : List (Int)) : hot (q + 2) (encI l) = false := by
  unfold encI; rw [hot_sl, List.any_map]; exact List.any_eq_false.2 fun x _ => by simp [hot, encN]
theorem hotIt (q : Nat) (l : List (Int)) (tk : Tk) : hot (q + 2) (.sl (l.map encN) tk) = false := by
  rw [hot_sl, List.any_map]; exact List.any_eq_false.2 fun x _ => by simp [hot, encN]
theorem solidI (l : List (Int)) : (encI l).solid = true := rfl
theorem cellsI (l : List (Int)) : (encI l).cells = [encI l] := rfl
theorem elemsI (m : Mem) (l : List (Int)) : m.elems (encI l) = some (l.map encN) := rfl
theorem get_app1 {bl : List Blk} {i : Nat} {b : Blk} (h : bl[i]? = some b) (c : Blk) : (bl ++ [c])[i]? = some b := by
  rw [List.getElem?_append_left (List.getElem?_eq_some_iff.1 h).1]; exact h
theorem earliest_ok (h : Hs) : RV ft 42 [encH h] (encV h false zeroI zeroI) := by
  refine RV_of ft42 rfl ?_
  simp only [c42, r42]
  simp only [go_sem, Nat.reduceEqDiff, Nat.reduceAdd, Nat.reduceLT, Nat.reduceLeDiff, reduceIte, and_self, decide_true, decide_false, beq_self_eq_true, HCells, HEta, WB61, snH, hotH, WVH_eq (fastest_ok h), true_and, CCells, solid_fnv, cells_fnv, snFn]
  rfl
theorem latest_ok (h : Hs) : RV ft 43 [encH h] (encV h true zeroI zeroI) := by
  refine RV_of ft43 rfl ?_
  simp only [c43, r43]
  simp only [go_sem, Nat.reduceEqDiff, Nat.reduceAdd, Nat.reduceLT, Nat.reduceLeDiff, reduceIte, and_self, decide_true, decide_false, beq_self_eq_true, HCells, HEta, WB62, snH, hotH, WVH_eq (slowest_ok h), true_and, CCells, solid_fnv, cells_fnv, snFn]
  rfl
theorem between_ok (c c' : Int) (a b : Ev) : RV ft 44 [encT c a, encT c' b] (encM (a, b)) := by
  refine RV_of ft44 rfl ?_
  simp only [c44, r44]
  simp only [go_sem, Nat.reduceEqDiff, Nat.reduceAdd, Nat.reduceLT, Nat.reduceLeDiff, reduceIte, and_self, decide_true, decide_false, beq_self_eq_true, TCells]
  rfl
section
variable {h hh : Hs} {s : Sl} {rd id : Int → Int} {c : Int} (hH : HV h) (hHH : HV hh) (hS : SV hh s) (hb0 : 0 ≤ s.bg) (hb1 : s.bg ≤ 2000) (h1 : Bd c rd) (h2 : Bd c id) (hc : 2000 ≤ c) (hc1 : c ≤ 1000000) (hi : Bool)
include hH hHH hS hb0 hb1 h1 h2 hc hc1
theorem after_okW : RV ft 46 [encV h hi rd id, encS s] (encV h hi (setI rd s.screen (evH h hi s rd id).ready) (setI id s.team ((evH h hi s rd id).ready + h.walk))) := by
  refine RV_of ft46 rfl ?_
  simp only [c46, r46]
  have ht := times_okW hH hHH hS hb0 hb1 h1 h2 hc hc1 hi
  have hb := ev_b hH hS hb0 hb1 h1 h2 hc hi
  have q1 : (0 ≤ s.screen) = True := eq_true hS.s0
  have q2 : (s.screen < 6) = True := eq_true (by have := hS.s1; omega)
  have q3 : (0 ≤ s.team) = True := eq_true hS.t0
  have t3 : s.team ≤ 3 := by have := hS.t1; have := hHH.t1; omega
  have q4 : (s.team < 4) = True := eq_true (by omega)
  have q5 : (((6 : Nat) : Int)) = 6 := rfl
  have q6 : (((4 : Nat) : Int)) = 4 := rfl
  have hw0 := hH.w0
  have hw1 := hH.w1
  generalize hev : evH h hi s rd id = ev at *
  have w1 : IntKind.i64.wrap (ev.ready + h.walk) = ev.ready + h.walk := wrap_i64 _ (by omega) (by omega)
  simp only [go_sem, Nat.reduceEqDiff, Nat.reduceAdd, Nat.reduceLT, Nat.reduceLeDiff, reduceIte, and_self, decide_true, decide_false, beq_self_eq_true, V_len, V_solid, V_take, V_drop, V_eta, SCells, SEta, WB45, snV, hotV, snS, hotS, WVH_eq ht, encT, true_and, Nat.zero_add, q1, q2, q3, q4, q5, q6, Nat.mul_one, V_wrd h hi _ _ hS.s0 hS.s1, V_wid h hi _ _ hS.t0 t3, V_c1, w1]
theorem delays_okW : RV ft 47 [encV h hi rd id, encS s] (.bool (decide (s.bg < (evH h hi s rd id).start))) := by
  refine RV_of ft47 rfl ?_
  simp only [c47, r47]
  have ht := times_okW hH hHH hS hb0 hb1 h1 h2 hc hc1 hi
  simp only [go_sem, Nat.reduceEqDiff, Nat.reduceAdd, Nat.reduceLT, Nat.reduceLeDiff, reduceIte, and_self, decide_true, decide_false, beq_self_eq_true, V_len, V_solid, V_take, V_drop, V_eta, SCells, SEta, WB45, snV, hotV, snS, hotS, WVH_eq ht, encT, true_and]
end
theorem after_ok {h : Hs} {s : Sl} {rd id : Int → Int} {c : Int} (hH : HV h) (hS : SV h s) (hb0 : 0 ≤ s.bg) (hb1 : s.bg ≤ 2000) (h1 : Bd c rd) (h2 : Bd c id) (hc : 2000 ≤ c) (hc1 : c ≤ 1000000) (hi : Bool) :
    RV ft 46 [encV h hi rd id, encS s] (encV h hi (setI rd s.screen (evH h hi s rd id).ready) (setI id s.team ((evH h hi s rd id).ready + h.walk))) := after_okW hH hH hS hb0 hb1 h1 h2 hc hc1 hi
theorem delays_ok {h : Hs} {s : Sl} {rd id : Int → Int} {c : Int} (hH : HV h) (hS : SV h s) (hb0 : 0 ≤ s.bg) (hb1 : s.bg ≤ 2000) (h1 : Bd c rd) (h2 : Bd c id) (hc : 2000 ≤ c) (hc1 : c ≤ 1000000) (hi : Bool) :
    RV ft 47 [encV h hi rd id, encS s] (.bool (decide (s.bg < (evH h hi s rd id).start))) := delays_okW hH hH hS hb0 hb1 h1 h2 hc hc1 hi
theorem comesBehind_ok (l : List Sl) (s : Sl) (hl : l.length < 1073741824) : RV ft 55 [encSs l, encS s] (.bool (behind l s)) := by
  refine RV_of ft55 rfl ?_
  simp only [c55, r55]
  simp only [go_sem, Nat.reduceEqDiff, Nat.reduceAdd, Nat.reduceLT, Nat.reduceLeDiff, reduceIte, and_self, decide_true, decide_false, beq_self_eq_true, SCells, Ss_len]
  refine WL_inv (α := Nat × List Sl) (fun q e mm => e 3 = .ptr 0 0 0 ∧ e 7 = encSs l ∧ e 8 = I64 l.length ∧ e 9 = I64 q.1 ∧ l.drop q.1 = q.2 ∧ behind q.2 s = behind l s ∧ ∃ bl tk, mm = ⟨bl, tk⟩ ∧ bl[0]? = some (.live [encS s] 6)) (fun q => q.2.length) (0, l) ?_ ?_
  · simp only [go_sem, Nat.reduceEqDiff, Nat.reduceAdd, Nat.reduceLT, Nat.reduceLeDiff, reduceIte, and_self, decide_true, decide_false, beq_self_eq_true]
    exact ⟨trivial, trivial, trivial, rfl, trivial, trivial, _, _, rfl, rfl⟩
  rintro ⟨k, r⟩ e m ⟨g3, g7, g8, g9, hd, hq, bl, tk, rfl, b0⟩
  dsimp only at g9 hd hq
  cases r with
  | nil =>
    have := drop_nil hd
    simp only [go_sem, Nat.reduceEqDiff, Nat.reduceAdd, Nat.reduceLT, Nat.reduceLeDiff, reduceIte, and_self, decide_true, decide_false, beq_self_eq_true, g3, g7, g8, g9, dec_ge this]
    rw [← hq]; rfl
  | cons x r =>
    obtain ⟨hk, hd2, hlt⟩ := drop_cons hd
    have hbx : behind (x :: r) s = (!(bad2 x s) && behind r s) := by simp [behind]
    rw [hbx] at hq
    cases h1 : decide (s.bg < x.bg)
    · cases h2 : (s.bg == x.bg)
      · have hb : bad2 x s = false := by simp [bad2, h1, h2]
        simp only [go_sem, Nat.reduceEqDiff, Nat.reduceAdd, Nat.reduceLT, Nat.reduceLeDiff, reduceIte, and_self, decide_true, decide_false, beq_self_eq_true, g3, g7, g8, g9, dec_lt hlt, Ss_idx _ hk, SCells, SEta, get_app1 b0, get_last, set_last, h1, h2, wrap_n1 k (by omega)]
        refine Nx_of (k + 1, r) (by simp) ?_
        simp only [go_sem, Nat.reduceEqDiff, Nat.reduceAdd, Nat.reduceLT, Nat.reduceLeDiff, reduceIte, and_self, decide_true, decide_false, beq_self_eq_true, g3, g7, g8]
        exact ⟨trivial, trivial, trivial, trivial, hd2, by rw [← hq, hb]; rfl, _, _, rfl, get_app1 b0 _⟩
      · cases h3 : (s.screen == x.screen)
        · have hb : bad2 x s = false := by simp [bad2, h1, h2, h3]
          simp only [go_sem, Nat.reduceEqDiff, Nat.reduceAdd, Nat.reduceLT, Nat.reduceLeDiff, reduceIte, and_self, decide_true, decide_false, beq_self_eq_true, g3, g7, g8, g9, dec_lt hlt, Ss_idx _ hk, SCells, SEta, get_app1 b0, get_last, set_last, h1, h2, h3, wrap_n1 k (by omega)]
          refine Nx_of (k + 1, r) (by simp) ?_
          simp only [go_sem, Nat.reduceEqDiff, Nat.reduceAdd, Nat.reduceLT, Nat.reduceLeDiff, reduceIte, and_self, decide_true, decide_false, beq_self_eq_true, g3, g7, g8]
          exact ⟨trivial, trivial, trivial, trivial, hd2, by rw [← hq, hb]; rfl, _, _, rfl, get_app1 b0 _⟩
        · have hb : bad2 x s = true := by simp [bad2, h1, h2, h3]
          simp only [go_sem, Nat.reduceEqDiff, Nat.reduceAdd, Nat.reduceLT, Nat.reduceLeDiff, reduceIte, and_self, decide_true, decide_false, beq_self_eq_true, g3, g7, g8, g9, dec_lt hlt, Ss_idx _ hk, SCells, SEta, get_app1 b0, get_last, set_last, h1, h2, h3]
          rw [← hq, hb]; rfl
    · have hb : bad2 x s = true := by simp [bad2, h1]
      simp only [go_sem, Nat.reduceEqDiff, Nat.reduceAdd, Nat.reduceLT, Nat.reduceLeDiff, reduceIte, and_self, decide_true, decide_false, beq_self_eq_true, g3, g7, g8, g9, dec_lt hlt, Ss_idx _ hk, SCells, SEta, get_app1 b0, get_last, set_last, h1]
      rw [← hq, hb]; rfl
end Go.Ab.T
end

section
namespace Go.Ab.T
set_option maxRecDepth 8000
set_option maxHeartbeats 4000000
theorem Ss_to (m : Mem) (l : List Sl) (k : Nat) (hk : k ≤ l.length) : sliceAt m (encSs l) none (some (I64 (k : Int))) 6 = some (encSs (l.take k)) := by
  unfold encSs
  rw [sliceAt_sl, if_pos (hdSz_map' encS 6 l fun _ => rfl), bounds_ns, List.length_map, if_pos ⟨Int.le_refl _, by omega, by omega⟩]
  simp [List.map_take]
theorem take_snoc {α : Type} {l : List α} {k : Nat} {x : α} (h : l[k]? = some x) : l.take (k + 1) = l.take k ++ [x] := by
  rw [List.take_add_one, h]; rfl
theorem validSlots_ok (h : Hs) (hH : HV h) (l : List Sl) : RV ft 57 [encH h, encSs l] (.bool (vS h l)) := by
  refine RV_of ft57 rfl ?_
  simp only [c57, r57]
  cases h12 : decide ((12 : Int) < (l.length : Int))
  case true =>
    have : decide (l.length ≤ 12) = false := decide_eq_false (by have := of_decide_eq_true h12; omega)
    simp only [go_sem, Nat.reduceEqDiff, Nat.reduceAdd, Nat.reduceLT, Nat.reduceLeDiff, reduceIte, and_self, decide_true, decide_false, beq_self_eq_true, HCells, Ss_len, h12]
    unfold vS; rw [this]; rfl
  have hl12 := of_decide_eq_false h12
  have : vS h l = vSgo h [] l := by unfold vS; rw [decide_eq_true (by omega)]; rfl
  rw [this]
  simp only [go_sem, Nat.reduceEqDiff, Nat.reduceAdd, Nat.reduceLT, Nat.reduceLeDiff, reduceIte, and_self, decide_true, decide_false, beq_self_eq_true, HCells, Ss_len, h12]
  refine WL_inv (α := Nat × List Sl) (fun q e mm => e 1 = encSs l ∧ e 2 = .ptr 0 0 0 ∧ e 10 = encSs l ∧ e 11 = I64 l.length ∧ e 12 = I64 q.1 ∧ l.drop q.1 = q.2 ∧ vSgo h (l.take q.1) q.2 = vSgo h [] l ∧ ∃ bl tk, mm = ⟨bl, tk⟩ ∧ bl[0]? = some (.live [encH h] 8)) (fun q => q.2.length) (0, l) ?_ ?_
  · simp only [go_sem, Nat.reduceEqDiff, Nat.reduceAdd, Nat.reduceLT, Nat.reduceLeDiff, reduceIte, and_self, decide_true, decide_false, beq_self_eq_true]
    exact ⟨trivial, trivial, trivial, trivial, rfl, trivial, trivial, _, _, rfl, rfl⟩
  rintro ⟨k, r⟩ e m ⟨g1, g2, g10, g11, g12, hd, hq, bl, tk, rfl, b0⟩
  dsimp only at g12 hd hq
  cases r with
  | nil =>
    have := drop_nil hd
    simp only [go_sem, Nat.reduceEqDiff, Nat.reduceAdd, Nat.reduceLT, Nat.reduceLeDiff, reduceIte, and_self, decide_true, decide_false, beq_self_eq_true, g1, g2, g10, g11, g12, dec_ge this]
    rw [← hq]; rfl
  | cons x r =>
    obtain ⟨hk, hd2, hlt⟩ := drop_cons hd
    rw [vSgo] at hq
    have hto := fun mm => Ss_to mm l k (by omega)
    have hcb := comesBehind_ok (l.take k) x (by rw [List.length_take]; omega)
    cases h1 : slotOK h x
    · simp only [go_sem, Nat.reduceEqDiff, Nat.reduceAdd, Nat.reduceLT, Nat.reduceLeDiff, reduceIte, and_self, decide_true, decide_false, beq_self_eq_true, g1, g2, g10, g11, g12, dec_lt hlt, Ss_idx _ hk, SCells, SEta, get_app1 b0, get_last, set_last, HCells, HEta, WB54, snH, hotH, snS, hotS, WVH_eq (canBeSlot_ok h x hH), h1, true_and]
      rw [← hq, h1]; rfl
    cases h2 : inR x.bg 0 2000
    · simp only [go_sem, Nat.reduceEqDiff, Nat.reduceAdd, Nat.reduceLT, Nat.reduceLeDiff, reduceIte, and_self, decide_true, decide_false, beq_self_eq_true, g1, g2, g10, g11, g12, dec_lt hlt, Ss_idx _ hk, SCells, SEta, get_app1 b0, get_last, set_last, HCells, HEta, WB54, snH, hotH, snS, hotS, WVH_eq (canBeSlot_ok h x hH), h1, true_and, WB49, WVH_eq (isWithin_ok _ _ _), h2]
      rw [← hq, h1, h2]; rfl
    cases h3 : behind (l.take k) x
    · simp only [go_sem, Nat.reduceEqDiff, Nat.reduceAdd, Nat.reduceLT, Nat.reduceLeDiff, reduceIte, and_self, decide_true, decide_false, beq_self_eq_true, g1, g2, g10, g11, g12, dec_lt hlt, Ss_idx _ hk, SCells, SEta, get_app1 b0, get_last, set_last, HCells, HEta, WB54, snH, hotH, snS, hotS, WVH_eq (canBeSlot_ok h x hH), h1, true_and, WB49, WVH_eq (isWithin_ok _ _ _), h2, hto, WB55, snSs, hotSs, WVH_eq hcb, h3]
      rw [← hq, h1, h2, h3]; rfl
    simp only [go_sem, Nat.reduceEqDiff, Nat.reduceAdd, Nat.reduceLT, Nat.reduceLeDiff, reduceIte, and_self, decide_true, decide_false, beq_self_eq_true, g1, g2, g10, g11, g12, dec_lt hlt, Ss_idx _ hk, SCells, SEta, get_app1 b0, get_last, set_last, HCells, HEta, WB54, snH, hotH, snS, hotS, WVH_eq (canBeSlot_ok h x hH), h1, true_and, WB49, WVH_eq (isWithin_ok _ _ _), h2, hto, WB55, snSs, hotSs, WVH_eq hcb, h3, wrap_n1 k (by omega)]
    refine Nx_of (k + 1, r) (by simp) ?_
    simp only [go_sem, Nat.reduceEqDiff, Nat.reduceAdd, Nat.reduceLT, Nat.reduceLeDiff, reduceIte, and_self, decide_true, decide_false, beq_self_eq_true, g1, g2, g10, g11]
    exact ⟨trivial, trivial, trivial, trivial, trivial, hd2, by rw [take_snoc hk, ← hq, h1, h2, h3]; rfl, _, _, rfl, get_app1 b0 _⟩
theorem Check_ok (h : Hs) (l : List Sl) : RV ft 31 [encH h, encSs l] (I64 (chk h l)) := by
  refine RV_of ft31 rfl ?_
  simp only [c31, r31]
  unfold chk
  cases h1 : houseOK h
  · simp only [go_sem, Nat.reduceEqDiff, Nat.reduceAdd, Nat.reduceLT, Nat.reduceLeDiff, reduceIte, and_self, decide_true, decide_false, beq_self_eq_true, HCells, HEta, WB56, snH, hotH, WVH_eq (validHouse_ok h), h1, true_and]
    rfl
  have hv := validSlots_ok h (houseOK_iff.1 h1) l
  cases h2 : vS h l
  · simp only [go_sem, Nat.reduceEqDiff, Nat.reduceAdd, Nat.reduceLT, Nat.reduceLeDiff, reduceIte, and_self, decide_true, decide_false, beq_self_eq_true, HCells, HEta, WB56, snH, hotH, WVH_eq (validHouse_ok h), h1, true_and, WB57, snSs, hotSs, WVH_eq hv, h2]
    rfl
  · simp only [go_sem, Nat.reduceEqDiff, Nat.reduceAdd, Nat.reduceLT, Nat.reduceLeDiff, reduceIte, and_self, decide_true, decide_false, beq_self_eq_true, HCells, HEta, WB56, snH, hotH, WVH_eq (validHouse_ok h), h1, true_and, WB57, snSs, hotSs, WVH_eq hv, h2]
theorem CheckR_ok (h : Hs) (l : List Sl) : RV ft 27 [encH h, encSs l] (I64 (chk h l)) := by
  refine RV_of ft27 rfl ?_
  simp only [c27, r27]
  unfold chk
  cases h1 : houseOK h
  · simp only [go_sem, Nat.reduceEqDiff, Nat.reduceAdd, Nat.reduceLT, Nat.reduceLeDiff, reduceIte, and_self, decide_true, decide_false, beq_self_eq_true, HCells, HEta, WB52, snH, hotH, WVH_eq (IsHouse_ok h), h1, true_and]
    rfl
  have hH := houseOK_iff.1 h1
  cases h12 : decide ((12 : Int) < (l.length : Int))
  case true =>
    have : decide (l.length ≤ 12) = false := decide_eq_false (by have := of_decide_eq_true h12; omega)
    simp only [go_sem, Nat.reduceEqDiff, Nat.reduceAdd, Nat.reduceLT, Nat.reduceLeDiff, reduceIte, and_self, decide_true, decide_false, beq_self_eq_true, HCells, HEta, WB52, snH, hotH, WVH_eq (IsHouse_ok h), h1, true_and, Ss_len, h12]
    unfold vS; rw [this]; rfl
  have hl12 := of_decide_eq_false h12
  have : vS h l = vSgo h [] l := by unfold vS; rw [decide_eq_true (by omega)]; rfl
  rw [this, if_pos rfl]
  simp only [go_sem, Nat.reduceEqDiff, Nat.reduceAdd, Nat.reduceLT, Nat.reduceLeDiff, reduceIte, and_self, decide_true, decide_false, beq_self_eq_true, HCells, HEta, WB52, snH, hotH, WVH_eq (IsHouse_ok h), h1, true_and, Ss_len, h12]
  refine WL_inv (α := Nat × List Sl) (fun q e mm => e 1 = encSs l ∧ e 2 = .ptr 0 0 0 ∧ e 5 = I64 q.1 ∧ l.drop q.1 = q.2 ∧ vSgo h (l.take q.1) q.2 = vSgo h [] l ∧ (∀ y, l[q.1 - 1]? = some y → ∀ b ∈ l.take q.1, b.bg ≤ y.bg) ∧ mm = ⟨[.live [encH h] 8], []⟩) (fun q => q.2.length) (0, l) ?_ ?_
  · simp only [go_sem, Nat.reduceEqDiff, Nat.reduceAdd, Nat.reduceLT, Nat.reduceLeDiff, reduceIte, and_self, decide_true, decide_false, beq_self_eq_true]
    exact ⟨trivial, trivial, rfl, trivial, trivial, fun y _ b hb => by simp at hb, trivial⟩
  rintro ⟨k, r⟩ e m ⟨g1, g2, g5, hd, hq, hasc, rfl⟩
  dsimp only at g5 hd hq hasc
  cases r with
  | nil =>
    have := drop_nil hd
    simp only [go_sem, Nat.reduceEqDiff, Nat.reduceAdd, Nat.reduceLT, Nat.reduceLeDiff, reduceIte, and_self, decide_true, decide_false, beq_self_eq_true, g1, g2, g5, Ss_len, dec_ge this]
    rw [← hq]; rfl
  | cons x r =>
    obtain ⟨hk, hd2, hlt⟩ := drop_cons hd
    rw [vSgo] at hq
    cases h1 : slotOK h x
    · simp only [go_sem, Nat.reduceEqDiff, Nat.reduceAdd, Nat.reduceLT, Nat.reduceLeDiff, reduceIte, and_self, decide_true, decide_false, beq_self_eq_true, g1, g2, g5, Ss_len, dec_lt hlt, Ss_idx _ hk, SCells, SEta, HCells, HEta, WB28, snH, hotH, snS, hotS, WVH_eq (IsSlot_ok h x hH), h1, true_and]
      rw [← hq, h1]; rfl
    cases h2 : inR x.bg 0 2000
    · simp only [go_sem, Nat.reduceEqDiff, Nat.reduceAdd, Nat.reduceLT, Nat.reduceLeDiff, reduceIte, and_self, decide_true, decide_false, beq_self_eq_true, g1, g2, g5, Ss_len, dec_lt hlt, Ss_idx _ hk, SCells, SEta, HCells, HEta, WB28, snH, hotH, snS, hotS, WVH_eq (IsSlot_ok h x hH), h1, true_and, WB40, WVH_eq (within_ok _ _ _), h2]
      rw [← hq, h1, h2]; rfl
    have hfin : ∀ (e' : Nat → AV), e' 1 = encSs l → e' 2 = .ptr 0 0 0 → e' 5 = I64 k → (∀ b ∈ l.take k, b.bg ≤ x.bg) → W ft (.block 3 .skip) ⟨e', ⟨[.live [encH h] 8], []⟩⟩ (fun _ _ => True) := fun _ _ _ _ _ => by
      simp only [go_sem]
    -- the slot before
    have hcase : (∃ y, 0 < k ∧ l[k - 1]? = some y ∧ x.bg < y.bg) ∨ (∀ b ∈ l.take k, b.bg ≤ x.bg) := by
      by_cases hk0 : 0 < k
      · obtain ⟨y, hy⟩ : ∃ y, l[k - 1]? = some y := ⟨_, List.getElem?_eq_getElem (by omega)⟩
        by_cases hlt' : x.bg < y.bg
        · exact .inl ⟨y, hk0, hy, hlt'⟩
        · exact .inr fun b hb => by have := hasc y hy b hb; omega
      · have : k = 0 := by omega
        subst this
        exact .inr fun b hb => by simp at hb
    rcases hcase with ⟨y, hk0, hy, hlt'⟩ | hall
    · have hyk : ((k : Int) - 1) = ((k - 1 : Nat) : Int) := by omega
      have w1 : IntKind.i64.wrap ((k : Int) - 1) = ((k - 1 : Nat) : Int) := by rw [hyk]; exact wrap_i64 _ (by omega) (by omega)
      have hbad : behind (l.take k) x = false := by
        cases hb : behind (l.take k) x with
        | false => rfl
        | true =>
          have := behind_iff.1 hb y (by rw [List.mem_iff_getElem?]; exact ⟨k - 1, by rw [List.getElem?_take_of_lt (by omega)]; exact hy⟩)
          omega
      have d1 : decide ((0 : Int) < (k : Int)) = true := decide_eq_true (by omega)
      simp only [go_sem, Nat.reduceEqDiff, Nat.reduceAdd, Nat.reduceLT, Nat.reduceLeDiff, reduceIte, and_self, decide_true, decide_false, beq_self_eq_true, g1, g2, g5, Ss_len, dec_lt hlt, Ss_idx _ hk, SCells, SEta, HCells, HEta, WB28, snH, hotH, snS, hotS, WVH_eq (IsSlot_ok h x hH), h1, true_and, WB40, WVH_eq (within_ok _ _ _), h2, d1, w1, Ss_idx _ hy, decide_eq_true hlt']
      rw [← hq, h1, h2, hbad]; rfl
    have inner : ∀ (e' : Nat → AV), e' 1 = encSs l → e' 2 = .ptr 0 0 0 → e' 5 = I64 k → True := fun _ _ _ _ => trivial
    have hstep : ∀ y, l[k]? = some y → ∀ b ∈ l.take (k + 1), b.bg ≤ y.bg := by
      intro y hy b hb
      rw [hk] at hy; cases hy
      rw [take_snoc hk] at hb
      rcases List.mem_append.1 hb with hb | hb
      · exact hall b hb
      · simp at hb; subst hb; exact Int.le_refl _
    have hcond : ∃ d, (decide ((0 : Int) < (k : Int)) = true ∧ ∃ y, l[k - 1]? = some y ∧ decide (x.bg < y.bg) = false ∧ d = true) ∨ (decide ((0 : Int) < (k : Int)) = false ∧ d = false) := by
      by_cases hk0 : 0 < k
      · obtain ⟨y, hy⟩ : ∃ y, l[k - 1]? = some y := ⟨_, List.getElem?_eq_getElem (by omega)⟩
        refine ⟨true, .inl ⟨decide_eq_true (by omega), y, hy, decide_eq_false ?_, rfl⟩⟩
        have := hall y (by rw [List.mem_iff_getElem?]; exact ⟨k - 1, by rw [List.getElem?_take_of_lt (by omega)]; exact hy⟩)
        omega
      · exact ⟨false, .inr ⟨decide_eq_false (by omega), rfl⟩⟩
    obtain ⟨d, hcond⟩ := hcond
    rcases hcond with ⟨d1, y, hy, d2, _⟩ | ⟨d1, _⟩
    case' inl =>
      have hyk : ((k : Int) - 1) = ((k - 1 : Nat) : Int) := by have := of_decide_eq_true d1; omega
      have w1 : IntKind.i64.wrap ((k : Int) - 1) = ((k - 1 : Nat) : Int) := by rw [hyk]; exact wrap_i64 _ (by omega) (by omega)
      simp only [go_sem, Nat.reduceEqDiff, Nat.reduceAdd, Nat.reduceLT, Nat.reduceLeDiff, reduceIte, and_self, decide_true, decide_false, beq_self_eq_true, g1, g2, g5, Ss_len, dec_lt hlt, Ss_idx _ hk, SCells, SEta, HCells, HEta, WB28, snH, hotH, snS, hotS, WVH_eq (IsSlot_ok h x hH), h1, true_and, WB40, WVH_eq (within_ok _ _ _), h2, d1, w1, Ss_idx _ hy, d2]
    case' inr => simp only [go_sem, Nat.reduceEqDiff, Nat.reduceAdd, Nat.reduceLT, Nat.reduceLeDiff, reduceIte, and_self, decide_true, decide_false, beq_self_eq_true, g1, g2, g5, Ss_len, dec_lt hlt, Ss_idx _ hk, SCells, SEta, HCells, HEta, WB28, snH, hotH, snS, hotS, WVH_eq (IsSlot_ok h x hH), h1, true_and, WB40, WVH_eq (within_ok _ _ _), h2, d1]
    all_goals
      refine WL_inv (α := Nat) (fun q e mm => e 1 = encSs l ∧ e 2 = .ptr 0 0 0 ∧ e 5 = I64 k ∧ e 6 = I64 q ∧ q ≤ k ∧ (∀ (j : Nat) b, j < q → l[j]? = some b → ¬(b.bg = x.bg ∧ b.screen = x.screen)) ∧ mm = ⟨[.live [encH h] 8], []⟩) (fun q => k - q) 0 ?_ ?_
      · simp only [go_sem, Nat.reduceEqDiff, Nat.reduceAdd, Nat.reduceLT, Nat.reduceLeDiff, reduceIte, and_self, decide_true, decide_false, beq_self_eq_true, g1, g2, g5]
        exact ⟨trivial, trivial, trivial, rfl, Nat.zero_le _, fun j b hj => by omega, trivial⟩
      rintro n e2 m2 ⟨f1, f2, f5, f6, hnk, hno, rfl⟩
      by_cases hn : n < k
      · obtain ⟨b, hb⟩ : ∃ b, l[n]? = some b := ⟨_, List.getElem?_eq_getElem (by omega)⟩
        cases h4 : (b.screen == x.screen)
        · simp only [go_sem, Nat.reduceEqDiff, Nat.reduceAdd, Nat.reduceLT, Nat.reduceLeDiff, reduceIte, and_self, decide_true, decide_false, beq_self_eq_true, f1, f2, f5, f6, dec_lt hn, Ss_idx _ hb, Ss_idx _ hk, SCells, Nat.zero_add, h4, wrap_n1 n (by omega)]
          refine Nx_of (n + 1) (by show k - (n + 1) < k - n; omega) ?_
          simp only [go_sem, Nat.reduceEqDiff, Nat.reduceAdd, Nat.reduceLT, Nat.reduceLeDiff, reduceIte, and_self, decide_true, decide_false, beq_self_eq_true, f1, f2, f5]
          refine ⟨trivial, trivial, trivial, trivial, hn, fun j c hj hc => ?_, trivial⟩
          by_cases hjn : j = n
          · subst hjn; rw [hb] at hc; cases hc; intro ⟨_, h6⟩; simp [h6] at h4
          · exact hno j c (by omega) hc
        cases h5 : (b.bg == x.bg)
        · simp only [go_sem, Nat.reduceEqDiff, Nat.reduceAdd, Nat.reduceLT, Nat.reduceLeDiff, reduceIte, and_self, decide_true, decide_false, beq_self_eq_true, f1, f2, f5, f6, dec_lt hn, Ss_idx _ hb, Ss_idx _ hk, SCells, Nat.zero_add, h4, h5, wrap_n1 n (by omega)]
          refine Nx_of (n + 1) (by show k - (n + 1) < k - n; omega) ?_
          simp only [go_sem, Nat.reduceEqDiff, Nat.reduceAdd, Nat.reduceLT, Nat.reduceLeDiff, reduceIte, and_self, decide_true, decide_false, beq_self_eq_true, f1, f2, f5]
          refine ⟨trivial, trivial, trivial, trivial, hn, fun j c hj hc => ?_, trivial⟩
          by_cases hjn : j = n
          · subst hjn; rw [hb] at hc; cases hc; intro ⟨h6, _⟩; simp [h6] at h5
          · exact hno j c (by omega) hc
        · have hbad : behind (l.take k) x = false := by
            cases hb' : behind (l.take k) x with
            | false => rfl
            | true =>
              have := behind_iff.1 hb' b (by rw [List.mem_iff_getElem?]; exact ⟨n, by rw [List.getElem?_take_of_lt hn]; exact hb⟩)
              exact absurd ⟨by simpa using h5, by simpa using h4⟩ this.2
          simp only [go_sem, Nat.reduceEqDiff, Nat.reduceAdd, Nat.reduceLT, Nat.reduceLeDiff, reduceIte, and_self, decide_true, decide_false, beq_self_eq_true, f1, f2, f5, f6, dec_lt hn, Ss_idx _ hb, Ss_idx _ hk, SCells, Nat.zero_add, h4, h5]
          rw [← hq, h1, h2, hbad]; rfl
      · obtain rfl : n = k := by omega
        have hgood : behind (l.take n) x = true := by
          refine behind_iff.2 fun b hb => ⟨hall b hb, ?_⟩
          rw [List.mem_iff_getElem?] at hb
          obtain ⟨j, hj⟩ := hb
          have hjn : j < n := by have := (List.getElem?_eq_some_iff.1 hj).1; rw [List.length_take] at this; omega
          rw [List.getElem?_take_of_lt hjn] at hj
          exact hno j b hjn hj
        simp only [go_sem, Nat.reduceEqDiff, Nat.reduceAdd, Nat.reduceLT, Nat.reduceLeDiff, reduceIte, and_self, decide_true, decide_false, beq_self_eq_true, f1, f2, f5, f6, dec_ge (Nat.le_refl n), wrap_n1 n (by omega)]
        refine Nx_of (n + 1, r) (by simp) ?_
        simp only [go_sem, Nat.reduceEqDiff, Nat.reduceAdd, Nat.reduceLT, Nat.reduceLeDiff, reduceIte, and_self, decide_true, decide_false, beq_self_eq_true, f1, f2]
        exact ⟨trivial, trivial, trivial, hd2, by rw [take_snoc hk, ← hq, h1, h2, hgood]; rfl, hstep, trivial⟩
theorem Far_ok (l : List Sl) : RV ft 30 [encSs l] (.bool (decide ((40 : Int) < (l.length : Int)))) := by
  refine RV_of ft30 rfl ?_
  simp only [c30, r30]
  simp only [go_sem, Nat.reduceEqDiff, Nat.reduceAdd, Nat.reduceLT, Nat.reduceLeDiff, reduceIte, and_self, decide_true, decide_false, beq_self_eq_true, Ss_len]
def validL (h : Hs) (l : List Sl) : Bool := !decide ((40 : Int) < (l.length : Int)) && (chk h l == 0)
theorem valid_ok (h : Hs) (l : List Sl) : RV ft 13 [encH h, encSs l] (.bool (validL h l)) := by
  refine RV_of ft13 rfl ?_
  simp only [c13, r13]
  unfold validL
  cases h1 : decide ((40 : Int) < (l.length : Int))
  · simp only [go_sem, Nat.reduceEqDiff, Nat.reduceAdd, Nat.reduceLT, Nat.reduceLeDiff, reduceIte, and_self, decide_true, decide_false, beq_self_eq_true, HCells, HEta, WB30, snSs, hotSs, WVH_eq (Far_ok l), h1, WB27, snH, hotH, WVH_eq (CheckR_ok h l), true_and]
  · simp only [go_sem, Nat.reduceEqDiff, Nat.reduceAdd, Nat.reduceLT, Nat.reduceLeDiff, reduceIte, and_self, decide_true, decide_false, beq_self_eq_true, HCells, HEta, WB30, snSs, hotSs, WVH_eq (Far_ok l), h1, true_and]
theorem validL_iff {h : Hs} {l : List Sl} : validL h l = true ↔ LV h l := by
  unfold validL
  rw [Bool.and_eq_true, Bool.not_eq_true', decide_eq_false_iff_not, beq_iff_eq, chk_0]
  exact ⟨fun h => h.2, fun h => ⟨by have := h.len; omega, h⟩⟩
theorem in_ok (s : Sp) (n : Int) : RV ft 19 [encP s, I64 n] (.bool (inR n s.lo s.hi)) := by
  refine RV_of ft19 rfl ?_
  simp only [c19, r19]
  unfold inR
  cases h : decide (s.lo ≤ n) <;> simp only [go_sem, Nat.reduceEqDiff, Nat.reduceAdd, Nat.reduceLT, Nat.reduceLeDiff, reduceIte, and_self, decide_true, decide_false, beq_self_eq_true, PCells, h, Bool.true_and, Bool.false_and]
end Go.Ab.T
end

section
namespace Go.Ab.T
/-! ### The reference's way to look back -/
def fE (sc co : Int) (p : List (Sl × Ev)) : Int := p.foldl (fun a q => if q.1.screen = sc then max a q.2.ready else a) co
def fT (walk t : Int) (p : List (Sl × Ev)) : Int := p.foldl (fun a q => if q.1.team = t then q.2.ready + walk else a) 0
theorem fE_snoc (sc co : Int) (p : List (Sl × Ev)) (q : Sl × Ev) : fE sc co (p ++ [q]) = if q.1.screen = sc then max (fE sc co p) q.2.ready else fE sc co p := by
  unfold fE; rw [List.foldl_append]; rfl
theorem fT_snoc (walk t : Int) (p : List (Sl × Ev)) (q : Sl × Ev) : fT walk t (p ++ [q]) = if q.1.team = t then q.2.ready + walk else fT walk t p := by
  unfold fT; rw [List.foldl_append]; rfl
/-- What the slots before have left. -/
structure Back (walk : Int) (p : List (Sl × Ev)) (rd id : Int → Int) : Prop where
  e : ∀ sc co, 0 ≤ co → fE sc co p = max co (rd sc)
  t : ∀ t, fT walk t p = id t
theorem Back_nil (walk : Int) : Back walk [] zeroI zeroI := ⟨fun sc co h => by show co = max co 0; omega, fun _ => rfl⟩
theorem evOf_up {come bg pa run clean rd id : Int} (hp : 0 ≤ pa) (hr : 0 ≤ run) (hc : 0 ≤ clean) : rd ≤ (evOf come bg pa run clean rd id).ready ∧ (evOf come bg pa run clean rd id).enter ≤ (evOf come bg pa run clean rd id).seated ∧
    (evOf come bg pa run clean rd id).seated ≤ (evOf come bg pa run clean rd id).start ∧ (evOf come bg pa run clean rd id).start + run ≤ (evOf come bg pa run clean rd id).empty ∧ (evOf come bg pa run clean rd id).empty + clean ≤ (evOf come bg pa run clean rd id).ready ∧
    rd ≤ (evOf come bg pa run clean rd id).enter ∧ come ≤ (evOf come bg pa run clean rd id).enter ∧ bg ≤ (evOf come bg pa run clean rd id).start ∧ id + clean ≤ (evOf come bg pa run clean rd id).ready := by
  unfold evOf; dsimp only; omega
theorem Back.snoc {walk : Int} {p : List (Sl × Ev)} {rd id : Int → Int} (h : Back walk p rd id) {s : Sl} {e : Ev} (he : rd s.screen ≤ e.ready) (hn : 0 ≤ e.ready) : Back walk (p ++ [(s, e)]) (setI rd s.screen e.ready) (setI id s.team (e.ready + walk)) := by
  refine ⟨fun sc co hc => ?_, fun t => ?_⟩
  · rw [fE_snoc, h.e sc co hc]
    unfold setI
    by_cases h1 : s.screen = sc
    · subst h1; simp only [if_true]; omega
    · rw [if_neg h1, if_neg (Ne.symm h1)]
  · rw [fT_snoc, h.t t]
    unfold setI
    by_cases h1 : s.team = t
    · subst h1; simp only [if_true]
    · rw [if_neg h1, if_neg (Ne.symm h1)]
/-! ### Cases -/
def mkIts : List Sl → List Int → List Int → List It
  | s :: l, r :: rs, c :: cs => ⟨s, r, c⟩ :: mkIts l rs cs
  | _, _, _ => []
theorem mkIts_len : ∀ (l : List Sl) (rs cs : List Int), rs.length = l.length → cs.length = l.length → (mkIts l rs cs).length = l.length
  | [], _, _, _, _ => by simp [mkIts]
  | s :: l, [], _, h, _ => by simp at h
  | s :: l, _ :: _, [], _, h => by simp at h
  | s :: l, r :: rs, c :: cs, h1, h2 => by simp [mkIts, mkIts_len l rs cs (by simpa using h1) (by simpa using h2)]
theorem mkIts_get : ∀ (l : List Sl) (rs cs : List Int) (i : Nat) s r c, l[i]? = some s → rs[i]? = some r → cs[i]? = some c → (mkIts l rs cs)[i]? = some ⟨s, r, c⟩
  | [], _, _, i, s, r, c, h, _, _ => by simp at h
  | s :: l, [], _, i, _, r, c, _, h, _ => by simp at h
  | s :: l, _ :: _, [], i, _, _, c, _, _, h => by simp at h
  | s :: l, r :: rs, c :: cs, 0, s', r', c', h1, h2, h3 => by simp at h1 h2 h3; subst h1; subst h2; subst h3; rfl
  | s :: l, r :: rs, c :: cs, i + 1, s', r', c', h1, h2, h3 => by
    simp only [mkIts, List.getElem?_cons_succ] at *
    exact mkIts_get l rs cs i s' r' c' h1 h2 h3
theorem mkIts_of (h : Hs) (hi : Bool) : ∀ l : List Sl, mkIts l (l.map fun s => s.runs.of hi) (l.map fun _ => h.clean.of hi) = l.map (itOf h hi)
  | [] => rfl
  | s :: l => by simp only [List.map_cons, mkIts, mkIts_of h hi l]; rfl
def isCgo (h : Hs) : List Sl → List Int → List Int → Bool
  | s :: l, r :: rs, c :: cs => inR r s.runs.lo s.runs.hi && (inR c h.clean.lo h.clean.hi && isCgo h l rs cs)
  | _, _, _ => true
def isC (h : Hs) (l : List Sl) (rs cs : List Int) (rate : Int) : Bool := (rs.length == l.length) && ((cs.length == l.length) && (inR rate h.doors.lo h.doors.hi && isCgo h l rs cs))
structure CV (h : Hs) (l : List Sl) (rs cs : List Int) (rate : Int) : Prop where
  l1 : rs.length = l.length
  l2 : cs.length = l.length
  r0 : h.doors.lo ≤ rate
  r1 : rate ≤ h.doors.hi
  rs : ∀ (i : Nat) s r, l[i]? = some s → rs[i]? = some r → s.runs.lo ≤ r ∧ r ≤ s.runs.hi
  cs : ∀ (i : Nat) c, cs[i]? = some c → h.clean.lo ≤ c ∧ c ≤ h.clean.hi
theorem isCgo_iff {h : Hs} : ∀ {l : List Sl} {rs cs : List Int}, rs.length = l.length → cs.length = l.length → isCgo h l rs cs = true →
    (∀ (i : Nat) s r, l[i]? = some s → rs[i]? = some r → s.runs.lo ≤ r ∧ r ≤ s.runs.hi) ∧ ∀ (i : Nat) c, cs[i]? = some c → h.clean.lo ≤ c ∧ c ≤ h.clean.hi
  | [], rs, cs, h1, h2, _ => by
    have : cs = [] := List.eq_nil_of_length_eq_zero (by simpa using h2)
    subst this
    exact ⟨fun i s r h => by simp at h, fun i c h => by simp at h⟩
  | s :: l, [], _, h1, _, _ => by simp at h1
  | s :: l, _ :: _, [], _, h2, _ => by simp at h2
  | s :: l, r :: rs, c :: cs, h1, h2, h3 => by
    simp only [isCgo, Bool.and_eq_true, inR_iff] at h3
    obtain ⟨h4, h5, h6⟩ := h3
    obtain ⟨h7, h8⟩ := isCgo_iff (by simpa using h1) (by simpa using h2) h6
    refine ⟨fun i s' r' hs hr => ?_, fun i c' hc => ?_⟩
    · cases i with
      | zero => simp at hs hr; subst hs; subst hr; exact h4
      | succ i => exact h7 i s' r' (by simpa using hs) (by simpa using hr)
    · cases i with
      | zero => simp at hc; subst hc; exact h5
      | succ i => exact h8 i c' (by simpa using hc)
theorem isC_CV {h : Hs} {l : List Sl} {rs cs : List Int} {rate : Int} (hc : isC h l rs cs rate = true) : CV h l rs cs rate := by
  unfold isC at hc
  simp only [Bool.and_eq_true, beq_iff_eq, inR_iff] at hc
  obtain ⟨h1, h2, ⟨h3, h4⟩, h5⟩ := hc
  obtain ⟨h6, h7⟩ := isCgo_iff h1 h2 h5
  exact ⟨h1, h2, h3, h4, h6, h7⟩
/-- What the sizes of items are. -/
structure IB (x : It) : Prop where
  c0 : 0 ≤ x.s.crowd
  c1 : x.s.crowd ≤ 500
  b0 : 0 ≤ x.s.bg
  b1 : x.s.bg ≤ 2000
  r0 : 1 ≤ x.run
  r1 : x.run ≤ 400
  k0 : 1 ≤ x.clean
  k1 : x.clean ≤ 120
end Go.Ab.T
end

section
namespace Go.Ab.T
set_option maxRecDepth 8000
set_option maxHeartbeats 4000000
theorem eqS (s : Sl) : eqAV true [.i, .i, .i, .i, .i, .i] (encS s) (encS s) = some true := by
  unfold encS; simp [eqAV, eqs, eq1]
theorem eqM (p : Ev × Ev) : eqAV true [.i, .i, .i, .i, .i, .i, .i, .i, .i, .i] (encM p) (encM p) = some true := by
  unfold encM; simp [eqAV, eqs, eq1]
theorem sameSlots_ok (l : List Sl) (hl : l.length < 1073741824) : RV ft 34 [encSs l, encSs l] (.bool true) := by
  refine RV_of ft34 rfl ?_
  simp only [c34, r34]
  have hne : ((l.length : Int) != (l.length : Int)) = false := by simp
  simp only [go_sem, Nat.reduceEqDiff, Nat.reduceAdd, Nat.reduceLT, Nat.reduceLeDiff, reduceIte, and_self, decide_true, decide_false, beq_self_eq_true, Ss_len, hne]
  refine WL_inv (α := Nat × List Sl) (fun q e mm => e 0 = encSs l ∧ e 1 = encSs l ∧ e 5 = I64 q.1 ∧ l.drop q.1 = q.2) (fun q => q.2.length) (0, l) ?_ ?_
  · simp only [go_sem, Nat.reduceEqDiff, Nat.reduceAdd, Nat.reduceLT, Nat.reduceLeDiff, reduceIte, and_self, decide_true, decide_false, beq_self_eq_true]
    exact ⟨trivial, trivial, rfl, trivial⟩
  rintro ⟨k, r⟩ e m ⟨h0, h1, h5, hd⟩
  dsimp only at h5 hd
  cases r with
  | nil =>
    have := drop_nil hd
    simp only [go_sem, Nat.reduceEqDiff, Nat.reduceAdd, Nat.reduceLT, Nat.reduceLeDiff, reduceIte, and_self, decide_true, decide_false, beq_self_eq_true, h0, h1, h5, Ss_len, dec_ge this]
  | cons x r =>
    obtain ⟨hk, hd2, hlt⟩ := drop_cons hd
    simp only [go_sem, Nat.reduceEqDiff, Nat.reduceAdd, Nat.reduceLT, Nat.reduceLeDiff, reduceIte, and_self, decide_true, decide_false, beq_self_eq_true, h0, h1, h5, Ss_len, dec_lt hlt, Ss_idx _ hk, SCells, SEta, eqS, wrap_n1 k (by omega), if_true]
    refine Nx_of (k + 1, r) (by simp) ?_
    simp only [go_sem, Nat.reduceEqDiff, Nat.reduceAdd, Nat.reduceLT, Nat.reduceLeDiff, reduceIte, and_self, decide_true, decide_false, beq_self_eq_true, h0, h1]
    exact ⟨trivial, trivial, trivial, hd2⟩
/-! ### A case -/
def encX (rs cs : List Int) (rate : Int) : AV := .agg [encI rs, encI cs, I64 rate]
theorem XCells (rs cs : List Int) (rate : Int) : (encX rs cs rate).cells = [encI rs, encI cs, I64 rate] := rfl
theorem XEta (rs cs : List Int) (rate : Int) : AV.agg [encI rs, encI cs, I64 rate] = encX rs cs rate := rfl
theorem snX (m : Mem) (q : Nat) (rs cs : List Int) (rate : Int) : snap m (q + 4) (encX rs cs rate) = encX rs cs rate := by
  unfold encX; rw [snap_agg]; simp only [List.map_cons, List.map_nil, snI, snap_int]
theorem hotX (q : Nat) (rs cs : List Int) (rate : Int) : hot (q + 4) (encX rs cs rate) = false := by
  unfold encX; rw [hot_agg]; simp only [List.any_cons, List.any_nil, hotI, hot_int, Bool.or_false]
/-- A case and a minute. -/
def encXM (rs cs : List Int) (rate m : Int) : AV := .agg [encI rs, encI cs, I64 rate, I64 m]
theorem XMCells (rs cs : List Int) (rate m : Int) : (encXM rs cs rate m).cells = [encI rs, encI cs, I64 rate, I64 m] := rfl
theorem encN_eq (n : Int) : encN n = I64 n := rfl
theorem IsCase_ok (h : Hs) (l : List Sl) (rs cs : List Int) (rate : Int) (hl : l.length < 1073741824) : RV ft 14 [encH h, encSs l, encX rs cs rate] (.bool (isC h l rs cs rate)) := by
  refine RV_of ft14 rfl ?_
  simp only [c14, r14]
  unfold isC
  have hb : ∀ a b : Nat, ((a : Int) != (b : Int)) = !(a == b) := fun a b => by
    rw [bne]; congr 1
    rw [Bool.eq_iff_iff, beq_iff_eq, beq_iff_eq]; omega
  cases h1 : (rs.length == l.length)
  · simp only [go_sem, Nat.reduceEqDiff, Nat.reduceAdd, Nat.reduceLT, Nat.reduceLeDiff, reduceIte, and_self, decide_true, decide_false, beq_self_eq_true, HCells, XCells, solidI, cellsI, I_len, Ss_len, hb, h1]
  cases h2 : (cs.length == l.length)
  · simp only [go_sem, Nat.reduceEqDiff, Nat.reduceAdd, Nat.reduceLT, Nat.reduceLeDiff, reduceIte, and_self, decide_true, decide_false, beq_self_eq_true, HCells, XCells, solidI, cellsI, I_len, Ss_len, hb, h1, h2]
  cases h3 : inR rate h.doors.lo h.doors.hi
  · simp only [go_sem, Nat.reduceEqDiff, Nat.reduceAdd, Nat.reduceLT, Nat.reduceLeDiff, reduceIte, and_self, decide_true, decide_false, beq_self_eq_true, HCells, XCells, solidI, cellsI, I_len, Ss_len, hb, h1, h2, WB40, WVH_eq (within_ok _ _ _), h3, true_and]
  simp only [go_sem, Nat.reduceEqDiff, Nat.reduceAdd, Nat.reduceLT, Nat.reduceLeDiff, reduceIte, and_self, decide_true, decide_false, beq_self_eq_true, HCells, XCells, solidI, cellsI, I_len, Ss_len, hb, h1, h2, WB40, WVH_eq (within_ok _ _ _), h3, true_and]
  simp only [beq_iff_eq] at h1 h2
  refine WL_inv (α := Nat × List Sl × List Int × List Int) (fun q e mm => e 1 = encSs l ∧ e 3 = .ptr 0 0 0 ∧ e 5 = .ptr 1 0 0 ∧ e 7 = I64 q.1 ∧ l.drop q.1 = q.2.1 ∧ rs.drop q.1 = q.2.2.1 ∧ cs.drop q.1 = q.2.2.2 ∧ isCgo h q.2.1 q.2.2.1 q.2.2.2 = isCgo h l rs cs ∧ mm = ⟨[.live [encH h] 8, .live [encX rs cs rate] 3], []⟩) (fun q => q.2.1.length) (0, l, rs, cs) ?_ ?_
  · simp only [go_sem, Nat.reduceEqDiff, Nat.reduceAdd, Nat.reduceLT, Nat.reduceLeDiff, reduceIte, and_self, decide_true, decide_false, beq_self_eq_true]
    ((repeat' apply And.intro) <;> first | trivial | rfl | omega | assumption)
  rintro ⟨k, r, rs', cs'⟩ e m ⟨g1, g3, g5, g7, hd, hdr, hdc, hq, rfl⟩
  dsimp only at g7 hd hdr hdc hq
  cases r with
  | nil =>
    have := drop_nil hd
    simp only [go_sem, Nat.reduceEqDiff, Nat.reduceAdd, Nat.reduceLT, Nat.reduceLeDiff, reduceIte, and_self, decide_true, decide_false, beq_self_eq_true, g1, g3, g5, g7, Ss_len, dec_ge this]
    rw [← hq]; rfl
  | cons x r =>
    obtain ⟨hk, hd2, hlt⟩ := drop_cons hd
    cases rs' with
    | nil => have := drop_nil hdr; omega
    | cons a rs' =>
      cases cs' with
      | nil => have := drop_nil hdc; omega
      | cons b cs' =>
        obtain ⟨hk2, hdr2, _⟩ := drop_cons hdr
        obtain ⟨hk3, hdc2, _⟩ := drop_cons hdc
        rw [isCgo] at hq
        cases h4 : inR a x.runs.lo x.runs.hi
        · simp only [go_sem, Nat.reduceEqDiff, Nat.reduceAdd, Nat.reduceLT, Nat.reduceLeDiff, reduceIte, and_self, decide_true, decide_false, beq_self_eq_true, g1, g3, g5, g7, Ss_len, dec_lt hlt, Ss_idx _ hk, I_idx _ hk2, I_idx _ hk3, encN_eq, SCells, HCells, XCells, Nat.zero_add, WB40, WVH_eq (within_ok _ _ _), h4, true_and]
          rw [← hq, h4]; rfl
        cases h5 : inR b h.clean.lo h.clean.hi
        · simp only [go_sem, Nat.reduceEqDiff, Nat.reduceAdd, Nat.reduceLT, Nat.reduceLeDiff, reduceIte, and_self, decide_true, decide_false, beq_self_eq_true, g1, g3, g5, g7, Ss_len, dec_lt hlt, Ss_idx _ hk, I_idx _ hk2, I_idx _ hk3, encN_eq, SCells, HCells, XCells, Nat.zero_add, WB40, WVH_eq (within_ok _ _ _), h4, h5, true_and]
          rw [← hq, h4, h5]; rfl
        simp only [go_sem, Nat.reduceEqDiff, Nat.reduceAdd, Nat.reduceLT, Nat.reduceLeDiff, reduceIte, and_self, decide_true, decide_false, beq_self_eq_true, g1, g3, g5, g7, Ss_len, dec_lt hlt, Ss_idx _ hk, I_idx _ hk2, I_idx _ hk3, encN_eq, SCells, HCells, XCells, Nat.zero_add, WB40, WVH_eq (within_ok _ _ _), h4, h5, true_and, wrap_n1 k (by omega)]
        refine Nx_of (k + 1, r, rs', cs') (by simp) ?_
        simp only [go_sem, Nat.reduceEqDiff, Nat.reduceAdd, Nat.reduceLT, Nat.reduceLeDiff, reduceIte, and_self, decide_true, decide_false, beq_self_eq_true, g1, g3, g5]
        exact ⟨trivial, trivial, trivial, trivial, hd2, hdr2, hdc2, by rw [← hq, h4, h5]; rfl, trivial⟩
end Go.Ab.T
end
