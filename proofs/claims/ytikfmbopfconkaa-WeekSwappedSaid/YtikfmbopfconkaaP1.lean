/-
  A part of the proofs over this seat.
  (The texts KwM1 KwK1 KwK2 KwK3 KwK4 KwK5, one behind the other.)
-/
import Derived.Test.YtikfmbopfconkaaA0
import Derived.Test.YtikfmbopfconkaaT1
set_option linter.unusedSimpArgs false
set_option linter.unusedVariables false
set_option linter.unusedSectionVars false
section
namespace Go.Ab.T
structure Mv where
  price : Int
  crowd : List Int
structure Dl where
  kind : Int
  film : Int
  fr : Int
  to : Int
  early : Int
  late : Int
  seats : Int
  times : Int
structure Wk where
  days : Int
  rooms : List Int
  hours : Int
  films : List Mv
  deals : List Dl
def inR (n lo hi : Int) : Bool := decide (lo ≤ n) && decide (n ≤ hi)
theorem inR_iff {n lo hi : Int} : inR n lo hi = true ↔ lo ≤ n ∧ n ≤ hi := by unfold inR; simp
def Wk.slots (w : Wk) : Int := w.days * w.rooms.length * w.hours
def mvOK (hours : Int) (f : Mv) : Bool := inR f.price 0 100 && ((f.crowd.length : Int) == hours && f.crowd.all fun c => inR c 0 999)
/-- What Times may be. -/
def tmOK (d : Dl) : Bool := if (d.kind == 1 || d.kind == 2) = true then inR d.times 0 8 else if (d.kind == 3 || (d.kind == 4 || d.kind == 5)) = true then d.times == 0 else false
def dlOK (w : Wk) (d : Dl) : Bool := inR d.film 0 ((w.films.length : Int) - 1) && (decide (0 ≤ d.fr) && (decide (d.fr ≤ d.to) && (decide (d.to < w.days) && (decide (0 ≤ d.early) && (decide (d.early ≤ d.late) && (decide (d.late < w.hours) && (inR d.seats 0 500 && tmOK d)))))))
def slotsOK (w : Wk) : Bool := inR w.days 1 7 && (inR w.rooms.length 1 4 && (w.rooms.all (fun r => inR r 1 500) && (inR w.hours 1 4 && decide (w.slots ≤ 8))))
def wkOK (w : Wk) : Bool := slotsOK w && (decide ((w.films.length : Int) ≤ 4) && (w.films.all (mvOK w.hours) && decide ((w.deals.length : Int) ≤ 8)))
/-- A number of a slot stays small. -/
theorem slot_le {a b M : Int} (ha : 0 ≤ a) (ha1 : a ≤ M) (hb : 0 ≤ b) (hb1 : b ≤ 1000) (hM : M ≤ 1000) : 0 ≤ a * b ∧ a * b ≤ 1000000 := by
  refine ⟨Int.mul_nonneg ha hb, ?_⟩
  have h1 : a * b ≤ 1000 * b := Int.mul_le_mul_of_nonneg_right (by omega) hb
  omega
/-- The first error of a week: 50, 51 or none. -/
def chkW (w : Wk) : Int := if wkOK w = true then (if w.deals.all (dlOK w) = true then 0 else 51) else 50
end Go.Ab.T
end

section
namespace Go.Ab.T
set_option maxRecDepth 8000
set_option maxHeartbeats 4000000
abbrev U64 (n : Nat) : AV := .int .u64 (n : Int)
def encIs (l : List Int) : AV := .sl (l.map I64) .unk
def encF (f : Mv) : AV := .agg [I64 f.price, encIs f.crowd]
def encFs (l : List Mv) : AV := .sl (l.map encF) .unk
def encD (d : Dl) : AV := .agg [I64 d.kind, I64 d.film, I64 d.fr, I64 d.to, I64 d.early, I64 d.late, I64 d.seats, I64 d.times]
def encDs (l : List Dl) : AV := .sl (l.map encD) .unk
def encW (w : Wk) : AV := .agg [I64 w.days, encIs w.rooms, I64 w.hours, encFs w.films, encDs w.deals]
theorem FCells (f : Mv) : (encF f).cells = [I64 f.price, encIs f.crowd] := rfl
theorem FEta (f : Mv) : AV.agg [I64 f.price, encIs f.crowd] = encF f := rfl
theorem DCells (d : Dl) : (encD d).cells = [I64 d.kind, I64 d.film, I64 d.fr, I64 d.to, I64 d.early, I64 d.late, I64 d.seats, I64 d.times] := rfl
theorem DEta (d : Dl) : AV.agg [I64 d.kind, I64 d.film, I64 d.fr, I64 d.to, I64 d.early, I64 d.late, I64 d.seats, I64 d.times] = encD d := rfl
theorem WCells (w : Wk) : (encW w).cells = [I64 w.days, encIs w.rooms, I64 w.hours, encFs w.films, encDs w.deals] := rfl
theorem WEta (w : Wk) : AV.agg [I64 w.days, encIs w.rooms, I64 w.hours, encFs w.films, encDs w.deals] = encW w := rfl
theorem cellsIs (l : List Int) : (encIs l).cells = [encIs l] := rfl
theorem cellsFs (l : List Mv) : (encFs l).cells = [encFs l] := rfl
theorem cellsDs (l : List Dl) : (encDs l).cells = [encDs l] := rfl
theorem solidIs (l : List Int) : (encIs l).solid = true := rfl
theorem solidFs (l : List Mv) : (encFs l).solid = true := rfl
theorem solidDs (l : List Dl) : (encDs l).solid = true := rfl
theorem snI (m : Mem) (q : Nat) : (snap m (q + 1)) ∘ I64 = I64 := funext fun _ => rfl
theorem snIs (m : Mem) (q : Nat) (l : List Int) : snap m (q + 2) (encIs l) = encIs l := by
  show AV.sl ((l.map I64).map (snap m (q + 1))) .unk = _
  rw [List.map_map, snI]; rfl
theorem snF (m : Mem) (q : Nat) (f : Mv) : snap m (q + 3) (encF f) = encF f := by
  show AV.agg [I64 f.price, snap m (q + 2) (encIs f.crowd)] = _
  rw [snIs]; rfl
theorem snFs (m : Mem) (q : Nat) (l : List Mv) : snap m (q + 4) (encFs l) = encFs l := by
  show AV.sl ((l.map encF).map (snap m (q + 3))) .unk = _
  rw [List.map_map, show snap m (q + 3) ∘ encF = encF from funext fun f => snF m q f]; rfl
theorem snD (m : Mem) (q : Nat) (d : Dl) : snap m (q + 2) (encD d) = encD d := rfl
theorem snDs (m : Mem) (q : Nat) (l : List Dl) : snap m (q + 3) (encDs l) = encDs l := by
  show AV.sl ((l.map encD).map (snap m (q + 2))) .unk = _
  rw [List.map_map, show snap m (q + 2) ∘ encD = encD from funext fun d => snD m q d]; rfl
theorem snW (m : Mem) (q : Nat) (w : Wk) : snap m (q + 5) (encW w) = encW w := by
  show AV.agg [I64 w.days, snap m (q + 4) (encIs w.rooms), I64 w.hours, snap m (q + 4) (encFs w.films), snap m (q + 4) (encDs w.deals)] = _
  rw [snIs, snFs, snDs]; rfl
theorem hotIs (q : Nat) (l : List Int) : hot (q + 2) (encIs l) = false := by
  show (l.map I64).any (hot (q + 1)) = false
  rw [List.any_map, List.any_eq_false]; intro x _; simp only [Function.comp]; rw [show hot (q + 1) (I64 x) = false from rfl]; decide
theorem hotF (q : Nat) (f : Mv) : hot (q + 3) (encF f) = false := by
  show (hot (q + 2) (I64 f.price) || (hot (q + 2) (encIs f.crowd) || false)) = false
  rw [hotIs]; rfl
theorem hotFs (q : Nat) (l : List Mv) : hot (q + 4) (encFs l) = false := by
  show (l.map encF).any (hot (q + 3)) = false
  rw [List.any_map, List.any_eq_false]; intro x _; simp only [Function.comp]; rw [hotF q x]; decide
theorem hotD (q : Nat) (d : Dl) : hot (q + 2) (encD d) = false := rfl
theorem hotDs (q : Nat) (l : List Dl) : hot (q + 3) (encDs l) = false := by
  show (l.map encD).any (hot (q + 2)) = false
  rw [List.any_map, List.any_eq_false]; intro x _; simp only [Function.comp]; rw [hotD q x]; decide
theorem hotW (q : Nat) (w : Wk) : hot (q + 5) (encW w) = false := by
  show (hot (q + 4) (I64 w.days) || (hot (q + 4) (encIs w.rooms) || (hot (q + 4) (I64 w.hours) || (hot (q + 4) (encFs w.films) || (hot (q + 4) (encDs w.deals) || false))))) = false
  rw [hotIs, hotFs, hotDs]; rfl
theorem Is_len (m : Mem) (l : List Int) : lenAt m (encIs l) = some (I64 l.length) := by unfold encIs; rw [lenAt_sl, List.length_map]
theorem Fs_len (m : Mem) (l : List Mv) : lenAt m (encFs l) = some (I64 l.length) := by unfold encFs; rw [lenAt_sl, List.length_map]
theorem Ds_len (m : Mem) (l : List Dl) : lenAt m (encDs l) = some (I64 l.length) := by unfold encDs; rw [lenAt_sl, List.length_map]
theorem within_ok (n lo hi : Int) : RV ft 38 [I64 n, I64 lo, I64 hi] (.bool (inR n lo hi)) := by
  refine RV_of ft38 rfl ?_
  simp only [c38, r38]
  unfold inR
  cases h : decide (lo ≤ n) <;> simp only [go_sem, Nat.reduceEqDiff, Nat.reduceAdd, Nat.reduceLT, Nat.reduceLeDiff, reduceIte, h, Bool.true_and, Bool.false_and]
theorem isWithin_ok (n lo hi : Int) : RV ft 57 [I64 n, I64 lo, I64 hi] (.bool (inR n lo hi)) := by
  refine RV_of ft57 rfl ?_
  simp only [c57, r57]
  unfold inR
  cases h : decide (lo ≤ n) <;> simp only [go_sem, Nat.reduceEqDiff, Nat.reduceAdd, Nat.reduceLT, Nat.reduceLeDiff, reduceIte, h, Bool.true_and, Bool.false_and]
theorem Slots_ok (w : Wk) (h1 : 0 ≤ w.days) (h2 : w.days ≤ 7) (h3 : w.rooms.length ≤ 4) (h4 : 0 ≤ w.hours) (h5 : w.hours ≤ 4) : RV ft 39 [encW w] (I64 w.slots) := by
  refine RV_of ft39 rfl ?_
  simp only [c39, r39]
  have a := slot_le (b := (w.rooms.length : Int)) h1 h2 (by omega) (by omega) (by omega)
  have a2 : w.days * w.rooms.length ≤ 1000 := by
    have : w.days * w.rooms.length ≤ 7 * w.rooms.length := Int.mul_le_mul_of_nonneg_right h2 (by omega)
    omega
  have b := slot_le (b := w.hours) a.1 a2 h4 (by omega) (by omega)
  have w1 : IntKind.i64.wrap (w.days * w.rooms.length) = w.days * w.rooms.length := wrap_i64 _ (by omega) (by omega)
  have w2 : IntKind.i64.wrap (w.days * w.rooms.length * w.hours) = w.slots := wrap_i64 _ (by omega) (by omega)
  simp only [go_sem, Nat.reduceEqDiff, Nat.reduceAdd, Nat.reduceLT, Nat.reduceLeDiff, reduceIte, WCells, cellsIs, solidIs, solidFs, solidDs, Bool.and_self, Is_len, w1, w2]
theorem slotCount_ok (w : Wk) (h1 : 0 ≤ w.days) (h2 : w.days ≤ 7) (h3 : w.rooms.length ≤ 4) (h4 : 0 ≤ w.hours) (h5 : w.hours ≤ 4) : RV ft 61 [encW w] (I64 w.slots) := by
  refine RV_of ft61 rfl ?_
  simp only [c61, r61]
  have a := slot_le (b := (w.rooms.length : Int)) h1 h2 (by omega) (by omega) (by omega)
  have a2 : w.days * w.rooms.length ≤ 1000 := by
    have : w.days * w.rooms.length ≤ 7 * w.rooms.length := Int.mul_le_mul_of_nonneg_right h2 (by omega)
    omega
  have b := slot_le (b := w.hours) a.1 a2 h4 (by omega) (by omega)
  have w1 : IntKind.i64.wrap (w.days * w.rooms.length) = w.days * w.rooms.length := wrap_i64 _ (by omega) (by omega)
  have w2 : IntKind.i64.wrap (w.days * w.rooms.length * w.hours) = w.slots := wrap_i64 _ (by omega) (by omega)
  simp only [go_sem, Nat.reduceEqDiff, Nat.reduceAdd, Nat.reduceLT, Nat.reduceLeDiff, reduceIte, WCells, cellsIs, solidIs, solidFs, solidDs, Bool.and_self, Is_len, w1, w2]
theorem dec_neg (n : Nat) : decide ((n : Int) < 0) = false := decide_eq_false (by omega)
theorem mn64 (n : Nat) (h : n < 64) : min ((n : Int)).toNat 64 = n := by rw [Int.toNat_natCast]; omega
theorem beq_nat (a b : Nat) : (((a : Nat) : Int) == (b : Int)) = decide (a = b) := by rw [Bool.eq_iff_iff, beq_iff_eq, decide_eq_true_eq]; omega
theorem two_lt (n : Nat) (h : n < 64) : 2 ^ n < 18446744073709551616 := Nat.pow_lt_pow_right (by omega) (show n < 64 from h)
theorem one_shl (n : Nat) (h : n < 64) : IntKind.u64.wrap (1 * 2 ^ min ((n : Int)).toNat 64) = ((2 ^ n : Nat) : Int) := by
  rw [mn64 n h, Int.one_mul, show (2 : Int) ^ n = ((2 ^ n : Nat) : Int) by rw [Int.natCast_pow]; rfl]
  have := two_lt n h
  generalize 2 ^ n = k at this ⊢
  exact wrap_u64 _ (by omega) (by omega)
/-- A set without another one's numbers. -/
def andn (a b : Nat) : Nat := a &&& (18446744073709551615 ^^^ b)
theorem andNot_u64 (a b : Nat) (ha : a < 18446744073709551616) (hb : b < 18446744073709551616) : andNotI .u64 (a : Int) (b : Int) = ((andn a b : Nat) : Int) := by
  show IntKind.u64.wrap ((BitVec.ofInt 64 (a : Int) &&& ~~~(BitVec.ofInt 64 (b : Int))).toNat : Int) = _
  have h1 : (BitVec.ofInt 64 (a : Int) &&& ~~~(BitVec.ofInt 64 (b : Int))).toNat = andn a b := by
    rw [← BitVec.allOnes_xor, BitVec.toNat_and, BitVec.toNat_xor, BitVec.ofInt_natCast, BitVec.ofInt_natCast, BitVec.toNat_ofNat, BitVec.toNat_ofNat, Nat.mod_eq_of_lt (by omega), Nat.mod_eq_of_lt (by omega)]
    rfl
  have h2 : andn a b ≤ a := Nat.and_le_left
  rw [h1, wrap_u64 _ (by omega) (by omega)]
theorem has_ok (s n : Nat) (hs : s < 18446744073709551616) (hn : n < 64) : RV ft 96 [U64 s, I64 n] (.bool (s.testBit n)) := by
  refine RV_of ft96 rfl ?_
  simp only [c96, r96]
  simp only [go_sem, Nat.reduceEqDiff, Nat.reduceAdd, Nat.reduceLT, Nat.reduceLeDiff, reduceIte, dec_neg]
  have h2 : s >>> n < 18446744073709551616 := Nat.lt_of_le_of_lt (Nat.shiftRight_le s n) hs
  rw [mn64 n hn, shr_nat, show (1 : Int) = ((1 : Nat) : Int) from rfl, andI_u64 _ 1 h2 (by omega), Nat.and_one_is_mod, beq_nat, testBit_mod]
theorem with_ok (s n : Nat) (hs : s < 18446744073709551616) (hn : n < 64) : RV ft 73 [U64 s, I64 n] (U64 (s ||| 2 ^ n)) := by
  refine RV_of ft73 rfl ?_
  simp only [c73, r73]
  simp only [go_sem, Nat.reduceEqDiff, Nat.reduceAdd, Nat.reduceLT, Nat.reduceLeDiff, reduceIte, dec_neg]
  rw [one_shl n hn, orI_u64 _ _ hs (two_lt n hn)]
theorem without_ok (s n : Nat) (hs : s < 18446744073709551616) (hn : n < 64) : RV ft 59 [U64 s, I64 n] (U64 (andn s (2 ^ n))) := by
  refine RV_of ft59 rfl ?_
  simp only [c59, r59]
  simp only [go_sem, Nat.reduceEqDiff, Nat.reduceAdd, Nat.reduceLT, Nat.reduceLeDiff, reduceIte, dec_neg]
  rw [one_shl n hn, andNot_u64 _ _ hs (two_lt n hn)]
theorem holds_ok (s t : Nat) (hs : s < 18446744073709551616) (ht : t < 18446744073709551616) : RV ft 82 [U64 s, U64 t] (.bool (decide (s &&& t = t))) := by
  refine RV_of ft82 rfl ?_
  simp only [c82, r82]
  simp only [go_sem, Nat.reduceEqDiff, Nat.reduceAdd, Nat.reduceLT, Nat.reduceLeDiff, reduceIte, dec_neg]
  rw [andI_u64 _ _ hs ht, beq_nat]
theorem below_ok (n : Nat) (hn : n < 64) : RV ft 80 [I64 n] (U64 (2 ^ n - 1)) := by
  refine RV_of ft80 rfl ?_
  simp only [c80, r80]
  simp only [go_sem, Nat.reduceEqDiff, Nat.reduceAdd, Nat.reduceLT, Nat.reduceLeDiff, reduceIte, dec_neg]
  rw [one_shl n hn]
  have h1 := two_lt n hn
  have h2 := Nat.two_pow_pos n
  generalize 2 ^ n = k at h1 h2 ⊢
  rw [wrap_u64 _ (by omega) (by omega), show ((k : Int) - 1) = ((k - 1 : Nat) : Int) by omega]
theorem allDeals_ok (w : Wk) (h : w.deals.length < 64) : RV ft 53 [encW w] (U64 (2 ^ w.deals.length - 1)) := by
  refine RV_of ft53 rfl ?_
  simp only [c53, r53]
  simp only [go_sem, Nat.reduceEqDiff, Nat.reduceAdd, Nat.reduceLT, Nat.reduceLeDiff, reduceIte, WCells, cellsIs, solidIs, solidFs, solidDs, Bool.and_self, Ds_len, WB80, WVH_eq (below_ok _ h), true_and]
theorem slot_ok (w : Wk) (day screen hour : Int) (h1 : 0 ≤ day ∧ day ≤ 100) (h2 : 0 ≤ screen ∧ screen ≤ 100) (h3 : 0 ≤ hour ∧ hour ≤ 100) (h4 : w.rooms.length ≤ 4) (h5 : 0 ≤ w.hours) (h6 : w.hours ≤ 4) : RV ft 106 [encW w, I64 day, I64 screen, I64 hour] (I64 ((day * w.rooms.length + screen) * w.hours + hour)) := by
  refine RV_of ft106 rfl ?_
  simp only [c106, r106]
  have a := slot_le (b := (w.rooms.length : Int)) h1.1 h1.2 (by omega) (by omega) (by omega)
  have a2 : day * w.rooms.length ≤ 400 := by
    have h7 : day * w.rooms.length ≤ 100 * w.rooms.length := Int.mul_le_mul_of_nonneg_right h1.2 (by omega)
    omega
  have b := slot_le (a := day * w.rooms.length + screen) (b := w.hours) (M := 1000) (by omega) (by omega) h5 (by omega) (by omega)
  have w1 : IntKind.i64.wrap (day * w.rooms.length) = day * w.rooms.length := wrap_i64 _ (by omega) (by omega)
  have w2 : IntKind.i64.wrap (day * w.rooms.length + screen) = day * w.rooms.length + screen := wrap_i64 _ (by omega) (by omega)
  have w3 : IntKind.i64.wrap ((day * w.rooms.length + screen) * w.hours) = (day * w.rooms.length + screen) * w.hours := wrap_i64 _ (by omega) (by omega)
  have w4 : IntKind.i64.wrap ((day * w.rooms.length + screen) * w.hours + hour) = (day * w.rooms.length + screen) * w.hours + hour := wrap_i64 _ (by omega) (by omega)
  simp only [go_sem, Nat.reduceEqDiff, Nat.reduceAdd, Nat.reduceLT, Nat.reduceLeDiff, reduceIte, WCells, cellsIs, solidIs, solidFs, solidDs, Bool.and_self, Is_len, w1, w2, w3, w4]
theorem Slot_ok (w : Wk) (day screen hour : Int) (h1 : 0 ≤ day ∧ day ≤ 100) (h2 : 0 ≤ screen ∧ screen ≤ 100) (h3 : 0 ≤ hour ∧ hour ≤ 100) (h4 : w.rooms.length ≤ 4) (h5 : 0 ≤ w.hours) (h6 : w.hours ≤ 4) : RV ft 33 [encW w, I64 day, I64 screen, I64 hour] (I64 ((day * w.rooms.length + screen) * w.hours + hour)) := by
  refine RV_of ft33 rfl ?_
  simp only [c33, r33]
  have a := slot_le (b := (w.rooms.length : Int)) h1.1 h1.2 (by omega) (by omega) (by omega)
  have a2 : day * w.rooms.length ≤ 400 := by
    have h7 : day * w.rooms.length ≤ 100 * w.rooms.length := Int.mul_le_mul_of_nonneg_right h1.2 (by omega)
    omega
  have b := slot_le (a := day * w.rooms.length + screen) (b := w.hours) (M := 1000) (by omega) (by omega) h5 (by omega) (by omega)
  have w1 : IntKind.i64.wrap (day * w.rooms.length) = day * w.rooms.length := wrap_i64 _ (by omega) (by omega)
  have w2 : IntKind.i64.wrap (day * w.rooms.length + screen) = day * w.rooms.length + screen := wrap_i64 _ (by omega) (by omega)
  have w3 : IntKind.i64.wrap ((day * w.rooms.length + screen) * w.hours) = (day * w.rooms.length + screen) * w.hours := wrap_i64 _ (by omega) (by omega)
  have w4 : IntKind.i64.wrap ((day * w.rooms.length + screen) * w.hours + hour) = (day * w.rooms.length + screen) * w.hours + hour := wrap_i64 _ (by omega) (by omega)
  simp only [go_sem, Nat.reduceEqDiff, Nat.reduceAdd, Nat.reduceLT, Nat.reduceLeDiff, reduceIte, WCells, cellsIs, solidIs, solidFs, solidDs, Bool.and_self, Is_len, w1, w2, w3, w4]
end Go.Ab.T
end

section
namespace Go.Ab.T
set_option maxRecDepth 8000
set_option maxHeartbeats 4000000
theorem wrap_n1b (k : Nat) (h : k + 1 < 9223372036854775808) : IntKind.i64.wrap ((k : Int) + 1) = ((k + 1 : Nat) : Int) := by rw [wrap_i64 _ (by omega) (by omega)]; omega
theorem wrap_n1 (k : Nat) (h : k < 4611686018427387904) : IntKind.i64.wrap ((k : Int) + 1) = ((k + 1 : Nat) : Int) := by rw [wrap_i64 _ (by omega) (by omega)]; omega
/-- The first place where something is so, -1 if there is none. -/
def idxP {α : Type} (p : α → Bool) : List α → Nat → Int
  | [], _ => -1
  | x :: r, k => if p x = true then (k : Int) else idxP p r (k + 1)
theorem idxP_any {α : Type} (p : α → Bool) : ∀ (l : List α) (k : Nat), decide (0 ≤ idxP p l k) = l.any p
  | [], k => rfl
  | x :: r, k => by
    unfold idxP
    cases h : p x
    · simp only [Bool.false_eq_true, if_false, List.any_cons, h, Bool.false_or]
      exact idxP_any p r (k + 1)
    · simp only [if_true, List.any_cons, h, Bool.true_or]
      exact decide_eq_true (by omega)
theorem not_any_not {α : Type} (p : α → Bool) (l : List α) : (!(l.any fun x => !p x)) = l.all p := by
  rw [List.all_eq_not_any_not]
/-- A function value that shows itself. -/
structure FnV (f : AV) : Prop where
  cells : f.cells = [f]
  solid : f.solid = true
  sn : ∀ (m : Mem) (q : Nat), snap m (q + 7) f = f
  ho : ∀ q, hot (q + 7) f = false
def Says {α : Type} (enc : α → AV) (f : AV) (l : List α) (p : α → Bool) : Prop :=
  ∀ x ∈ l, ∀ (e : Nat → AV) (m : Mem) (K : AV → St → Prop), K (.bool (p x)) ⟨e, m⟩ → @WAH ft f [enc x] ⟨e, m⟩ ⟨K⟩
theorem Is_idx (m : Mem) {l : List Int} {k : Nat} {x : Int} (h : l[k]? = some x) : idxAt m (encIs l) (I64 (k : Int)) 1 = some (.pv (I64 x) 0) := by
  unfold encIs
  rw [idxAt_sl, if_pos (by omega), Int.toNat_natCast, List.getElem?_map, h]; rfl
theorem IndexIs_ok (l : List Int) (f : AV) (p : Int → Bool) (hl : l.length < 1073741824) (hf : Says I64 f l p) : RV ft 103 [encIs l, f] (I64 (idxP p l 0)) := by
  refine RV_of ft103 rfl ?_
  simp only [c103, r103]
  simp only [go_sem, Nat.reduceEqDiff, Nat.reduceAdd, Nat.reduceLT, Nat.reduceLeDiff, reduceIte, Is_len]
  refine WL_inv (α := Nat × List Int) (fun q e mm => e 0 = encIs l ∧ e 1 = f ∧ e 7 = I64 l.length ∧ e 8 = I64 q.1 ∧ l.drop q.1 = q.2 ∧ idxP p q.2 q.1 = idxP p l 0) (fun q => q.2.length) (0, l) ?_ ?_
  · simp only [go_sem, Nat.reduceEqDiff, Nat.reduceAdd, Nat.reduceLT, Nat.reduceLeDiff, reduceIte]
    ((repeat' apply And.intro) <;> first | trivial | rfl | omega | assumption)
  rintro ⟨k, r⟩ e m ⟨h0, h1, h7, h8, hd, hq⟩
  dsimp only at h8 hd hq
  cases r with
  | nil =>
    have h3 := drop_nil hd
    simp only [go_sem, Nat.reduceEqDiff, Nat.reduceAdd, Nat.reduceLT, Nat.reduceLeDiff, reduceIte, h0, h1, h7, h8, dec_ge h3]
    rw [← hq]; rfl
  | cons x r =>
    obtain ⟨hk, hd2, hlt⟩ := drop_cons hd
    simp only [go_sem, Nat.reduceEqDiff, Nat.reduceAdd, Nat.reduceLT, Nat.reduceLeDiff, reduceIte, h0, h1, h7, h8, dec_lt hlt, Is_idx _ hk]
    refine hf x (List.mem_of_getElem? hk) _ _ _ ?_
    cases hx : p x
    · simp only [go_sem, Nat.reduceEqDiff, Nat.reduceAdd, Nat.reduceLT, Nat.reduceLeDiff, reduceIte, h0, h1, h7, h8, wrap_n1 k (by omega)]
      refine Nx_of (k + 1, r) (by simp) ?_
      simp only [go_sem, Nat.reduceEqDiff, Nat.reduceAdd, Nat.reduceLT, Nat.reduceLeDiff, reduceIte, h0, h1, h7]
      exact ⟨trivial, trivial, trivial, trivial, hd2, by rw [← hq]; simp [idxP, hx]⟩
    · simp only [go_sem, Nat.reduceEqDiff, Nat.reduceAdd, Nat.reduceLT, Nat.reduceLeDiff, reduceIte, h0, h1, h7, h8]
      rw [← hq]; simp [idxP, hx]
theorem ContainsIs_ok (l : List Int) (f : AV) (p : Int → Bool) (hl : l.length < 1073741824) (hs : ∀ (m : Mem) (q : Nat), snap m (q + 9) f = f) (hh : ∀ q, hot (q + 9) f = false) (hf : Says I64 f l p) : RV ft 84 [encIs l, f] (.bool (l.any p)) := by
  refine RV_of ft84 rfl ?_
  simp only [c84, r84]
  simp only [go_sem, Nat.reduceEqDiff, Nat.reduceAdd, Nat.reduceLT, Nat.reduceLeDiff, reduceIte, WB103, snIs, hotIs, hs, hh, WVH_eq (IndexIs_ok l f p hl hf), true_and, idxP_any]
theorem all1Is_ok {f : AV} (hv : FnV f) {p : Int → Bool} {x : Int} {l : List Int} (hx : x ∈ l) (hf : Says I64 f l p) : RV ft 85 [I64 x, .pv f 0] (.bool (!p x)) := by
  refine RV_of ft85 rfl ?_
  simp only [c85, r85]
  simp only [go_sem, Nat.reduceEqDiff, Nat.reduceAdd, Nat.reduceLT, Nat.reduceLeDiff, reduceIte, hv.cells, hv.solid]
  refine hf x hx _ _ _ ?_
  simp only [go_sem, Nat.reduceEqDiff, Nat.reduceAdd, Nat.reduceLT, Nat.reduceLeDiff, reduceIte]
theorem closIs {f : AV} (hv : FnV f) {p : Int → Bool} {l : List Int} (hf : Says I64 f l p) : Says I64 (.fn 85 [] [.pv f 0]) l fun x => !p x := by
  intro x hx e m K hK
  rw [WAH_fn]
  simp only [go_sem, Nat.reduceEqDiff, Nat.reduceAdd, Nat.reduceLT, Nat.reduceLeDiff, reduceIte, WB85, hv.sn, hv.ho, WVH_eq (all1Is_ok hv hx hf), true_and]
  exact hK
theorem allIs_ok (l : List Int) (f : AV) (p : Int → Bool) (hl : l.length < 1073741824) (hv : FnV f) (hf : Says I64 f l p) : RV ft 64 [encIs l, f] (.bool (l.all p)) := by
  refine RV_of ft64 rfl ?_
  simp only [c64, r64]
  have hs : ∀ (m : Mem) (q : Nat), snap m (q + 9) (.fn 85 [] [.pv f 0]) = .fn 85 [] [.pv f 0] := fun m q => by
    show AV.fn 85 [] [.pv (snap m (q + 7) f) 0] = _
    rw [hv.sn]
  have hh : ∀ q, hot (q + 9) (.fn 85 [] [.pv f 0]) = false := fun q => by
    show (false || (hot (q + 7) f || false)) = false
    rw [hv.ho]; rfl
  simp only [go_sem, Nat.reduceEqDiff, Nat.reduceAdd, Nat.reduceLT, Nat.reduceLeDiff, reduceIte, hv.cells, hv.solid, WB84, snIs, hotIs, hv.sn, hv.ho, WVH_eq (ContainsIs_ok l _ _ hl hs hh (closIs hv hf)), true_and, not_any_not]
theorem Fs_idx (m : Mem) {l : List Mv} {k : Nat} {x : Mv} (h : l[k]? = some x) : idxAt m (encFs l) (I64 (k : Int)) 2 = some (.pv (encF x) 0) := by
  unfold encFs
  rw [idxAt_sl, if_pos (by omega), Int.toNat_natCast, List.getElem?_map, h]; rfl
theorem IndexFs_ok (l : List Mv) (f : AV) (p : Mv → Bool) (hl : l.length < 1073741824) (hf : Says encF f l p) : RV ft 104 [encFs l, f] (I64 (idxP p l 0)) := by
  refine RV_of ft104 rfl ?_
  simp only [c104, r104]
  simp only [go_sem, Nat.reduceEqDiff, Nat.reduceAdd, Nat.reduceLT, Nat.reduceLeDiff, reduceIte, Fs_len]
  refine WL_inv (α := Nat × List Mv) (fun q e mm => e 0 = encFs l ∧ e 1 = f ∧ e 7 = I64 l.length ∧ e 8 = I64 q.1 ∧ l.drop q.1 = q.2 ∧ idxP p q.2 q.1 = idxP p l 0) (fun q => q.2.length) (0, l) ?_ ?_
  · simp only [go_sem, Nat.reduceEqDiff, Nat.reduceAdd, Nat.reduceLT, Nat.reduceLeDiff, reduceIte]
    ((repeat' apply And.intro) <;> first | trivial | rfl | omega | assumption)
  rintro ⟨k, r⟩ e m ⟨h0, h1, h7, h8, hd, hq⟩
  dsimp only at h8 hd hq
  cases r with
  | nil =>
    have h3 := drop_nil hd
    simp only [go_sem, Nat.reduceEqDiff, Nat.reduceAdd, Nat.reduceLT, Nat.reduceLeDiff, reduceIte, h0, h1, h7, h8, dec_ge h3]
    rw [← hq]; rfl
  | cons x r =>
    obtain ⟨hk, hd2, hlt⟩ := drop_cons hd
    simp only [go_sem, Nat.reduceEqDiff, Nat.reduceAdd, Nat.reduceLT, Nat.reduceLeDiff, reduceIte, h0, h1, h7, h8, dec_lt hlt, Fs_idx _ hk, FCells, FEta, cellsIs, solidIs]
    refine hf x (List.mem_of_getElem? hk) _ _ _ ?_
    cases hx : p x
    · simp only [go_sem, Nat.reduceEqDiff, Nat.reduceAdd, Nat.reduceLT, Nat.reduceLeDiff, reduceIte, h0, h1, h7, h8, wrap_n1 k (by omega)]
      refine Nx_of (k + 1, r) (by simp) ?_
      simp only [go_sem, Nat.reduceEqDiff, Nat.reduceAdd, Nat.reduceLT, Nat.reduceLeDiff, reduceIte, h0, h1, h7]
      exact ⟨trivial, trivial, trivial, trivial, hd2, by rw [← hq]; simp [idxP, hx]⟩
    · simp only [go_sem, Nat.reduceEqDiff, Nat.reduceAdd, Nat.reduceLT, Nat.reduceLeDiff, reduceIte, h0, h1, h7, h8]
      rw [← hq]; simp [idxP, hx]
theorem ContainsFs_ok (l : List Mv) (f : AV) (p : Mv → Bool) (hl : l.length < 1073741824) (hs : ∀ (m : Mem) (q : Nat), snap m (q + 9) f = f) (hh : ∀ q, hot (q + 9) f = false) (hf : Says encF f l p) : RV ft 87 [encFs l, f] (.bool (l.any p)) := by
  refine RV_of ft87 rfl ?_
  simp only [c87, r87]
  simp only [go_sem, Nat.reduceEqDiff, Nat.reduceAdd, Nat.reduceLT, Nat.reduceLeDiff, reduceIte, WB104, snFs, hotFs, hs, hh, WVH_eq (IndexFs_ok l f p hl hf), true_and, idxP_any]
theorem all1Fs_ok {f : AV} (hv : FnV f) {p : Mv → Bool} {x : Mv} {l : List Mv} (hx : x ∈ l) (hf : Says encF f l p) : RV ft 88 [encF x, .pv f 0] (.bool (!p x)) := by
  refine RV_of ft88 rfl ?_
  simp only [c88, r88]
  simp only [go_sem, Nat.reduceEqDiff, Nat.reduceAdd, Nat.reduceLT, Nat.reduceLeDiff, reduceIte, hv.cells, hv.solid, FCells, FEta, cellsIs, solidIs]
  refine hf x hx _ _ _ ?_
  simp only [go_sem, Nat.reduceEqDiff, Nat.reduceAdd, Nat.reduceLT, Nat.reduceLeDiff, reduceIte]
theorem closFs {f : AV} (hv : FnV f) {p : Mv → Bool} {l : List Mv} (hf : Says encF f l p) : Says encF (.fn 88 [] [.pv f 0]) l fun x => !p x := by
  intro x hx e m K hK
  rw [WAH_fn]
  simp only [go_sem, Nat.reduceEqDiff, Nat.reduceAdd, Nat.reduceLT, Nat.reduceLeDiff, reduceIte, WB88, snF, hotF, hv.sn, hv.ho, WVH_eq (all1Fs_ok hv hx hf), true_and]
  exact hK
theorem allFs_ok (l : List Mv) (f : AV) (p : Mv → Bool) (hl : l.length < 1073741824) (hv : FnV f) (hf : Says encF f l p) : RV ft 66 [encFs l, f] (.bool (l.all p)) := by
  refine RV_of ft66 rfl ?_
  simp only [c66, r66]
  have hs : ∀ (m : Mem) (q : Nat), snap m (q + 9) (.fn 88 [] [.pv f 0]) = .fn 88 [] [.pv f 0] := fun m q => by
    show AV.fn 88 [] [.pv (snap m (q + 7) f) 0] = _
    rw [hv.sn]
  have hh : ∀ q, hot (q + 9) (.fn 88 [] [.pv f 0]) = false := fun q => by
    show (false || (hot (q + 7) f || false)) = false
    rw [hv.ho]; rfl
  simp only [go_sem, Nat.reduceEqDiff, Nat.reduceAdd, Nat.reduceLT, Nat.reduceLeDiff, reduceIte, hv.cells, hv.solid, WB87, snFs, hotFs, hv.sn, hv.ho, WVH_eq (ContainsFs_ok l _ _ hl hs hh (closFs hv hf)), true_and, not_any_not]
theorem Ds_idx (m : Mem) {l : List Dl} {k : Nat} {x : Dl} (h : l[k]? = some x) : idxAt m (encDs l) (I64 (k : Int)) 8 = some (.pv (encD x) 0) := by
  unfold encDs
  rw [idxAt_sl, if_pos (by omega), Int.toNat_natCast, List.getElem?_map, h]; rfl
theorem IndexDs_ok (l : List Dl) (f : AV) (p : Dl → Bool) (hl : l.length < 1073741824) (hf : Says encD f l p) : RV ft 105 [encDs l, f] (I64 (idxP p l 0)) := by
  refine RV_of ft105 rfl ?_
  simp only [c105, r105]
  simp only [go_sem, Nat.reduceEqDiff, Nat.reduceAdd, Nat.reduceLT, Nat.reduceLeDiff, reduceIte, Ds_len]
  refine WL_inv (α := Nat × List Dl) (fun q e mm => e 0 = encDs l ∧ e 1 = f ∧ e 7 = I64 l.length ∧ e 8 = I64 q.1 ∧ l.drop q.1 = q.2 ∧ idxP p q.2 q.1 = idxP p l 0) (fun q => q.2.length) (0, l) ?_ ?_
  · simp only [go_sem, Nat.reduceEqDiff, Nat.reduceAdd, Nat.reduceLT, Nat.reduceLeDiff, reduceIte]
    ((repeat' apply And.intro) <;> first | trivial | rfl | omega | assumption)
  rintro ⟨k, r⟩ e m ⟨h0, h1, h7, h8, hd, hq⟩
  dsimp only at h8 hd hq
  cases r with
  | nil =>
    have h3 := drop_nil hd
    simp only [go_sem, Nat.reduceEqDiff, Nat.reduceAdd, Nat.reduceLT, Nat.reduceLeDiff, reduceIte, h0, h1, h7, h8, dec_ge h3]
    rw [← hq]; rfl
  | cons x r =>
    obtain ⟨hk, hd2, hlt⟩ := drop_cons hd
    simp only [go_sem, Nat.reduceEqDiff, Nat.reduceAdd, Nat.reduceLT, Nat.reduceLeDiff, reduceIte, h0, h1, h7, h8, dec_lt hlt, Ds_idx _ hk, DCells, DEta]
    refine hf x (List.mem_of_getElem? hk) _ _ _ ?_
    cases hx : p x
    · simp only [go_sem, Nat.reduceEqDiff, Nat.reduceAdd, Nat.reduceLT, Nat.reduceLeDiff, reduceIte, h0, h1, h7, h8, wrap_n1 k (by omega)]
      refine Nx_of (k + 1, r) (by simp) ?_
      simp only [go_sem, Nat.reduceEqDiff, Nat.reduceAdd, Nat.reduceLT, Nat.reduceLeDiff, reduceIte, h0, h1, h7]
      exact ⟨trivial, trivial, trivial, trivial, hd2, by rw [← hq]; simp [idxP, hx]⟩
    · simp only [go_sem, Nat.reduceEqDiff, Nat.reduceAdd, Nat.reduceLT, Nat.reduceLeDiff, reduceIte, h0, h1, h7, h8]
      rw [← hq]; simp [idxP, hx]
theorem ContainsDs_ok (l : List Dl) (f : AV) (p : Dl → Bool) (hl : l.length < 1073741824) (hs : ∀ (m : Mem) (q : Nat), snap m (q + 9) f = f) (hh : ∀ q, hot (q + 9) f = false) (hf : Says encD f l p) : RV ft 89 [encDs l, f] (.bool (l.any p)) := by
  refine RV_of ft89 rfl ?_
  simp only [c89, r89]
  simp only [go_sem, Nat.reduceEqDiff, Nat.reduceAdd, Nat.reduceLT, Nat.reduceLeDiff, reduceIte, WB105, snDs, hotDs, hs, hh, WVH_eq (IndexDs_ok l f p hl hf), true_and, idxP_any]
theorem all1Ds_ok {f : AV} (hv : FnV f) {p : Dl → Bool} {x : Dl} {l : List Dl} (hx : x ∈ l) (hf : Says encD f l p) : RV ft 90 [encD x, .pv f 0] (.bool (!p x)) := by
  refine RV_of ft90 rfl ?_
  simp only [c90, r90]
  simp only [go_sem, Nat.reduceEqDiff, Nat.reduceAdd, Nat.reduceLT, Nat.reduceLeDiff, reduceIte, hv.cells, hv.solid, DCells, DEta]
  refine hf x hx _ _ _ ?_
  simp only [go_sem, Nat.reduceEqDiff, Nat.reduceAdd, Nat.reduceLT, Nat.reduceLeDiff, reduceIte]
theorem closDs {f : AV} (hv : FnV f) {p : Dl → Bool} {l : List Dl} (hf : Says encD f l p) : Says encD (.fn 90 [] [.pv f 0]) l fun x => !p x := by
  intro x hx e m K hK
  rw [WAH_fn]
  simp only [go_sem, Nat.reduceEqDiff, Nat.reduceAdd, Nat.reduceLT, Nat.reduceLeDiff, reduceIte, WB90, snD, hotD, hv.sn, hv.ho, WVH_eq (all1Ds_ok hv hx hf), true_and]
  exact hK
theorem allDs_ok (l : List Dl) (f : AV) (p : Dl → Bool) (hl : l.length < 1073741824) (hv : FnV f) (hf : Says encD f l p) : RV ft 67 [encDs l, f] (.bool (l.all p)) := by
  refine RV_of ft67 rfl ?_
  simp only [c67, r67]
  have hs : ∀ (m : Mem) (q : Nat), snap m (q + 9) (.fn 90 [] [.pv f 0]) = .fn 90 [] [.pv f 0] := fun m q => by
    show AV.fn 90 [] [.pv (snap m (q + 7) f) 0] = _
    rw [hv.sn]
  have hh : ∀ q, hot (q + 9) (.fn 90 [] [.pv f 0]) = false := fun q => by
    show (false || (hot (q + 7) f || false)) = false
    rw [hv.ho]; rfl
  simp only [go_sem, Nat.reduceEqDiff, Nat.reduceAdd, Nat.reduceLT, Nat.reduceLeDiff, reduceIte, hv.cells, hv.solid, WB89, snDs, hotDs, hv.sn, hv.ho, WVH_eq (ContainsDs_ok l _ _ hl hs hh (closDs hv hf)), true_and, not_any_not]
end Go.Ab.T
end

section
namespace Go.Ab.T
set_option maxRecDepth 8000
set_option maxHeartbeats 4000000
theorem isCrowd_ok (c : Int) : RV ft 62 [I64 c] (.bool (inR c 0 999)) := by
  refine RV_of ft62 rfl ?_
  simp only [c62, r62]
  simp only [go_sem, Nat.reduceEqDiff, Nat.reduceAdd, Nat.reduceLT, Nat.reduceLeDiff, reduceIte, WB57, WVH_eq (isWithin_ok _ _ _), true_and]
theorem says62 (l : List Int) : Says I64 (.fn 62 [] []) l fun c => inR c 0 999 := by
  intro x hx e m K hK
  rw [WAH_fn]
  simp only [go_sem, Nat.reduceEqDiff, Nat.reduceAdd, Nat.reduceLT, Nat.reduceLeDiff, reduceIte, WB62, WVH_eq (isCrowd_ok x), true_and]
  exact hK
theorem fnv62 : FnV (.fn 62 [] []) := ⟨rfl, rfl, fun _ _ => rfl, fun _ => rfl⟩
theorem isRoom_ok (c : Int) : RV ft 86 [I64 c] (.bool (inR c 1 500)) := by
  refine RV_of ft86 rfl ?_
  simp only [c86, r86]
  simp only [go_sem, Nat.reduceEqDiff, Nat.reduceAdd, Nat.reduceLT, Nat.reduceLeDiff, reduceIte, WB57, WVH_eq (isWithin_ok _ _ _), true_and]
theorem says86 (l : List Int) : Says I64 (.fn 86 [] []) l fun c => inR c 1 500 := by
  intro x hx e m K hK
  rw [WAH_fn]
  simp only [go_sem, Nat.reduceEqDiff, Nat.reduceAdd, Nat.reduceLT, Nat.reduceLeDiff, reduceIte, WB86, WVH_eq (isRoom_ok x), true_and]
  exact hK
theorem fnv86 : FnV (.fn 86 [] []) := ⟨rfl, rfl, fun _ _ => rfl, fun _ => rfl⟩
theorem isFilm_ok (w : Wk) (f : Mv) (h4 : w.hours ≤ 4) : RV ft 63 [encF f, .pv (encW w) 0, .pv (.fn 62 [] []) 0] (.bool (mvOK w.hours f)) := by
  refine RV_of ft63 rfl ?_
  simp only [c63, r63]
  unfold mvOK
  cases h1 : inR f.price 0 100
  · simp only [go_sem, Nat.reduceEqDiff, Nat.reduceAdd, Nat.reduceLT, Nat.reduceLeDiff, reduceIte, FCells, WCells, cellsIs, solidIs, cellsFs, solidFs, cellsDs, solidDs, Bool.and_self, Is_len, WB57, WVH_eq (isWithin_ok _ _ _), true_and, h1, Bool.false_and, Bool.true_and]
  cases h2 : ((f.crowd.length : Int) == w.hours)
  · simp only [go_sem, Nat.reduceEqDiff, Nat.reduceAdd, Nat.reduceLT, Nat.reduceLeDiff, reduceIte, FCells, WCells, cellsIs, solidIs, cellsFs, solidFs, cellsDs, solidDs, Bool.and_self, Is_len, WB57, WVH_eq (isWithin_ok _ _ _), true_and, h1, h2, Bool.false_and, Bool.true_and]
  have hc := eq_of_beq h2
  simp only [go_sem, Nat.reduceEqDiff, Nat.reduceAdd, Nat.reduceLT, Nat.reduceLeDiff, reduceIte, FCells, WCells, cellsIs, solidIs, cellsFs, solidFs, cellsDs, solidDs, Bool.and_self, Is_len, WB57, WVH_eq (isWithin_ok _ _ _), true_and, h1, h2, Bool.true_and, cells_fn, WB64, snIs, hotIs, fnv62.sn, fnv62.ho, WVH_eq (allIs_ok f.crowd _ _ (by omega) fnv62 (says62 _))]
theorem validTimes_ok (d : Dl) : RV ft 69 [encD d] (.bool (tmOK d)) := by
  refine RV_of ft69 rfl ?_
  simp only [c69, r69]
  unfold tmOK
  cases h1 : d.kind == 1
  case true => simp only [go_sem, Nat.reduceEqDiff, Nat.reduceAdd, Nat.reduceLT, Nat.reduceLeDiff, reduceIte, DCells, DEta, WB57, WVH_eq (isWithin_ok _ _ _), true_and, h1, Bool.true_or, if_true]
  cases h2 : d.kind == 2
  case true => simp only [go_sem, Nat.reduceEqDiff, Nat.reduceAdd, Nat.reduceLT, Nat.reduceLeDiff, reduceIte, DCells, DEta, WB57, WVH_eq (isWithin_ok _ _ _), true_and, h1, h2, Bool.false_or, if_true]
  cases h3 : d.kind == 3
  case true => simp only [go_sem, Nat.reduceEqDiff, Nat.reduceAdd, Nat.reduceLT, Nat.reduceLeDiff, reduceIte, DCells, DEta, WB57, WVH_eq (isWithin_ok _ _ _), true_and, h1, h2, h3, Bool.false_or, Bool.true_or, Bool.false_eq_true, if_false, if_true]
  cases h4 : d.kind == 4
  case true => simp only [go_sem, Nat.reduceEqDiff, Nat.reduceAdd, Nat.reduceLT, Nat.reduceLeDiff, reduceIte, DCells, DEta, WB57, WVH_eq (isWithin_ok _ _ _), true_and, h1, h2, h3, h4, Bool.false_or, Bool.true_or, Bool.false_eq_true, if_false, if_true]
  cases h5 : d.kind == 5
  case true => simp only [go_sem, Nat.reduceEqDiff, Nat.reduceAdd, Nat.reduceLT, Nat.reduceLeDiff, reduceIte, DCells, DEta, WB57, WVH_eq (isWithin_ok _ _ _), true_and, h1, h2, h3, h4, h5, Bool.false_or, Bool.true_or, Bool.false_eq_true, if_false, if_true]
  simp only [go_sem, Nat.reduceEqDiff, Nat.reduceAdd, Nat.reduceLT, Nat.reduceLeDiff, reduceIte, DCells, DEta, WB57, WVH_eq (isWithin_ok _ _ _), true_and, h1, h2, h3, h4, h5, Bool.false_or, Bool.false_eq_true, if_false]
theorem isDealP_ok (w : Wk) (d : Dl) (hf : w.films.length ≤ 1000) : RV ft 68 [encD d, .pv (encW w) 0] (.bool (dlOK w d)) := by
  refine RV_of ft68 rfl ?_
  simp only [c68, r68]
  have w1 : IntKind.i64.wrap ((w.films.length : Int) - 1) = (w.films.length : Int) - 1 := wrap_i64 _ (by omega) (by omega)
  unfold dlOK
  cases h1 : inR d.film 0 ((w.films.length : Int) - 1)
  · simp only [go_sem, Nat.reduceEqDiff, Nat.reduceAdd, Nat.reduceLT, Nat.reduceLeDiff, reduceIte, DCells, DEta, WCells, cellsIs, solidIs, cellsFs, solidFs, cellsDs, solidDs, Bool.and_self, Fs_len, w1, WB57, WVH_eq (isWithin_ok _ _ _), true_and, h1, Bool.false_and, Bool.true_and]
  cases h2 : decide (0 ≤ d.fr)
  · simp only [go_sem, Nat.reduceEqDiff, Nat.reduceAdd, Nat.reduceLT, Nat.reduceLeDiff, reduceIte, DCells, DEta, WCells, cellsIs, solidIs, cellsFs, solidFs, cellsDs, solidDs, Bool.and_self, Fs_len, w1, WB57, WVH_eq (isWithin_ok _ _ _), true_and, h1, h2, Bool.false_and, Bool.true_and]
  cases h3 : decide (d.fr ≤ d.to)
  · simp only [go_sem, Nat.reduceEqDiff, Nat.reduceAdd, Nat.reduceLT, Nat.reduceLeDiff, reduceIte, DCells, DEta, WCells, cellsIs, solidIs, cellsFs, solidFs, cellsDs, solidDs, Bool.and_self, Fs_len, w1, WB57, WVH_eq (isWithin_ok _ _ _), true_and, h1, h2, h3, Bool.false_and, Bool.true_and]
  cases h4 : decide (d.to < w.days)
  · simp only [go_sem, Nat.reduceEqDiff, Nat.reduceAdd, Nat.reduceLT, Nat.reduceLeDiff, reduceIte, DCells, DEta, WCells, cellsIs, solidIs, cellsFs, solidFs, cellsDs, solidDs, Bool.and_self, Fs_len, w1, WB57, WVH_eq (isWithin_ok _ _ _), true_and, h1, h2, h3, h4, Bool.false_and, Bool.true_and]
  cases h5 : decide (0 ≤ d.early)
  · simp only [go_sem, Nat.reduceEqDiff, Nat.reduceAdd, Nat.reduceLT, Nat.reduceLeDiff, reduceIte, DCells, DEta, WCells, cellsIs, solidIs, cellsFs, solidFs, cellsDs, solidDs, Bool.and_self, Fs_len, w1, WB57, WVH_eq (isWithin_ok _ _ _), true_and, h1, h2, h3, h4, h5, Bool.false_and, Bool.true_and]
  cases h6 : decide (d.early ≤ d.late)
  · simp only [go_sem, Nat.reduceEqDiff, Nat.reduceAdd, Nat.reduceLT, Nat.reduceLeDiff, reduceIte, DCells, DEta, WCells, cellsIs, solidIs, cellsFs, solidFs, cellsDs, solidDs, Bool.and_self, Fs_len, w1, WB57, WVH_eq (isWithin_ok _ _ _), true_and, h1, h2, h3, h4, h5, h6, Bool.false_and, Bool.true_and]
  cases h7 : decide (d.late < w.hours)
  · simp only [go_sem, Nat.reduceEqDiff, Nat.reduceAdd, Nat.reduceLT, Nat.reduceLeDiff, reduceIte, DCells, DEta, WCells, cellsIs, solidIs, cellsFs, solidFs, cellsDs, solidDs, Bool.and_self, Fs_len, w1, WB57, WVH_eq (isWithin_ok _ _ _), true_and, h1, h2, h3, h4, h5, h6, h7, Bool.false_and, Bool.true_and]
  cases h8 : inR d.seats 0 500
  · simp only [go_sem, Nat.reduceEqDiff, Nat.reduceAdd, Nat.reduceLT, Nat.reduceLeDiff, reduceIte, DCells, DEta, WCells, cellsIs, solidIs, cellsFs, solidFs, cellsDs, solidDs, Bool.and_self, Fs_len, w1, WB57, WVH_eq (isWithin_ok _ _ _), true_and, h1, h2, h3, h4, h5, h6, h7, h8, Bool.false_and, Bool.true_and]
  simp only [go_sem, Nat.reduceEqDiff, Nat.reduceAdd, Nat.reduceLT, Nat.reduceLeDiff, reduceIte, DCells, DEta, WCells, cellsIs, solidIs, cellsFs, solidFs, cellsDs, solidDs, Bool.and_self, Fs_len, w1, WB57, WVH_eq (isWithin_ok _ _ _), true_and, h1, h2, h3, h4, h5, h6, h7, h8, Bool.true_and, WB69, snD, hotD, WVH_eq (validTimes_ok d)]
theorem says68 (w : Wk) (l : List Dl) (hf : w.films.length ≤ 1000) : Says encD (.fn 68 [] [.pv (encW w) 0]) l (dlOK w) := by
  intro x hx e m K hK
  rw [WAH_fn]
  simp only [go_sem, Nat.reduceEqDiff, Nat.reduceAdd, Nat.reduceLT, Nat.reduceLeDiff, reduceIte, WB68, snD, hotD, snW, hotW, WVH_eq (isDealP_ok w x hf), true_and]
  exact hK
theorem fnv68 (w : Wk) : FnV (.fn 68 [] [.pv (encW w) 0]) := ⟨rfl, rfl, fun m q => by
    show AV.fn 68 [] [.pv (snap m (q + 5) (encW w)) 0] = _
    rw [snW], fun q => by
    show (false || (hot (q + 5) (encW w) || false)) = false
    rw [hotW]; rfl⟩
theorem says63 (w : Wk) (l : List Mv) (h4 : w.hours ≤ 4) : Says encF (.fn 63 [] [.pv (encW w) 0, .pv (.fn 62 [] []) 0]) l (mvOK w.hours) := by
  intro x hx e m K hK
  rw [WAH_fn]
  simp only [go_sem, Nat.reduceEqDiff, Nat.reduceAdd, Nat.reduceLT, Nat.reduceLeDiff, reduceIte, WB63, snF, hotF, snW, hotW, fnv62.sn, fnv62.ho, WVH_eq (isFilm_ok w x h4), true_and]
  exact hK
theorem fnv63 (w : Wk) : FnV (.fn 63 [] [.pv (encW w) 0, .pv (.fn 62 [] []) 0]) := ⟨rfl, rfl, fun m q => by
    show AV.fn 63 [] [.pv (snap m (q + 5) (encW w)) 0, .pv (.fn 62 [] []) 0] = _
    rw [snW], fun q => by
    show (false || (hot (q + 5) (encW w) || (false || false))) = false
    rw [hotW]; rfl⟩
theorem validSlots_ok (w : Wk) : RV ft 65 [encW w] (.bool (slotsOK w)) := by
  refine RV_of ft65 rfl ?_
  simp only [c65, r65]
  unfold slotsOK
  cases h1 : inR w.days 1 7
  · simp only [go_sem, Nat.reduceEqDiff, Nat.reduceAdd, Nat.reduceLT, Nat.reduceLeDiff, reduceIte, WCells, WEta, cellsIs, solidIs, cellsFs, solidFs, cellsDs, solidDs, Bool.and_self, Is_len, Fs_len, Ds_len, WB57, WVH_eq (isWithin_ok _ _ _), true_and, h1, Bool.false_and, Bool.true_and]
  cases h2 : inR w.rooms.length 1 4
  · simp only [go_sem, Nat.reduceEqDiff, Nat.reduceAdd, Nat.reduceLT, Nat.reduceLeDiff, reduceIte, WCells, WEta, cellsIs, solidIs, cellsFs, solidFs, cellsDs, solidDs, Bool.and_self, Is_len, Fs_len, Ds_len, WB57, WVH_eq (isWithin_ok _ _ _), true_and, h1, h2, Bool.false_and, Bool.true_and]
  have hd := inR_iff.1 h1
  have hr := inR_iff.1 h2
  have hl : w.rooms.length < 1073741824 := by omega
  cases h3 : w.rooms.all fun r => inR r 1 500
  · simp only [go_sem, Nat.reduceEqDiff, Nat.reduceAdd, Nat.reduceLT, Nat.reduceLeDiff, reduceIte, WCells, WEta, cellsIs, solidIs, cellsFs, solidFs, cellsDs, solidDs, Bool.and_self, Is_len, Fs_len, Ds_len, WB57, WVH_eq (isWithin_ok _ _ _), true_and, h1, h2, WB64, snIs, hotIs, fnv86.sn, fnv86.ho, WVH_eq (allIs_ok w.rooms _ _ hl fnv86 (says86 _)), h3, Bool.false_and, Bool.true_and]
  cases h4 : inR w.hours 1 4
  · simp only [go_sem, Nat.reduceEqDiff, Nat.reduceAdd, Nat.reduceLT, Nat.reduceLeDiff, reduceIte, WCells, WEta, cellsIs, solidIs, cellsFs, solidFs, cellsDs, solidDs, Bool.and_self, Is_len, Fs_len, Ds_len, WB57, WVH_eq (isWithin_ok _ _ _), true_and, h1, h2, WB64, snIs, hotIs, fnv86.sn, fnv86.ho, WVH_eq (allIs_ok w.rooms _ _ hl fnv86 (says86 _)), h3, h4, Bool.false_and, Bool.true_and]
  have hh := inR_iff.1 h4
  simp only [go_sem, Nat.reduceEqDiff, Nat.reduceAdd, Nat.reduceLT, Nat.reduceLeDiff, reduceIte, WCells, WEta, cellsIs, solidIs, cellsFs, solidFs, cellsDs, solidDs, Bool.and_self, Is_len, Fs_len, Ds_len, WB57, WVH_eq (isWithin_ok _ _ _), true_and, h1, h2, WB64, snIs, hotIs, fnv86.sn, fnv86.ho, WVH_eq (allIs_ok w.rooms _ _ hl fnv86 (says86 _)), h3, h4, Bool.true_and, WB61, snW, hotW, WVH_eq (slotCount_ok w (by omega) hd.2 (by omega) (by omega) hh.2)]
theorem validDeals_ok (w : Wk) (hf : w.films.length ≤ 1000) (hd : w.deals.length < 1073741824) : RV ft 37 [encW w] (.bool (w.deals.all (dlOK w))) := by
  refine RV_of ft37 rfl ?_
  simp only [c37, r37]
  simp only [go_sem, Nat.reduceEqDiff, Nat.reduceAdd, Nat.reduceLT, Nat.reduceLeDiff, reduceIte, WCells, WEta, cellsIs, solidIs, cellsFs, solidFs, cellsDs, solidDs, Bool.and_self, Is_len, Fs_len, Ds_len, WB57, WVH_eq (isWithin_ok _ _ _), true_and, WB67, snDs, hotDs, snW, hotW, WVH_eq (allDs_ok w.deals _ _ hd (fnv68 w) (says68 w _ hf))]
theorem slotsOK_hours {w : Wk} (h : slotsOK w = true) : 1 ≤ w.hours ∧ w.hours ≤ 4 := by
  unfold slotsOK at h
  simp only [Bool.and_eq_true] at h
  exact inR_iff.1 h.2.2.2.1
theorem validWeek_ok (w : Wk) : RV ft 36 [encW w] (.bool (wkOK w)) := by
  refine RV_of ft36 rfl ?_
  simp only [c36, r36]
  unfold wkOK
  cases h1 : slotsOK w
  · simp only [go_sem, Nat.reduceEqDiff, Nat.reduceAdd, Nat.reduceLT, Nat.reduceLeDiff, reduceIte, WCells, WEta, cellsIs, solidIs, cellsFs, solidFs, cellsDs, solidDs, Bool.and_self, Is_len, Fs_len, Ds_len, WB57, WVH_eq (isWithin_ok _ _ _), true_and, WB65, snW, hotW, WVH_eq (validSlots_ok w), h1, Bool.false_and]
  have hh := slotsOK_hours h1
  cases h2 : decide ((w.films.length : Int) ≤ 4)
  · simp only [go_sem, Nat.reduceEqDiff, Nat.reduceAdd, Nat.reduceLT, Nat.reduceLeDiff, reduceIte, WCells, WEta, cellsIs, solidIs, cellsFs, solidFs, cellsDs, solidDs, Bool.and_self, Is_len, Fs_len, Ds_len, WB57, WVH_eq (isWithin_ok _ _ _), true_and, WB65, snW, hotW, WVH_eq (validSlots_ok w), h1, h2, Bool.false_and, Bool.true_and]
  have hf := of_decide_eq_true h2
  cases h3 : w.films.all (mvOK w.hours)
  · simp only [go_sem, Nat.reduceEqDiff, Nat.reduceAdd, Nat.reduceLT, Nat.reduceLeDiff, reduceIte, WCells, WEta, cellsIs, solidIs, cellsFs, solidFs, cellsDs, solidDs, Bool.and_self, Is_len, Fs_len, Ds_len, WB57, WVH_eq (isWithin_ok _ _ _), true_and, WB65, snW, hotW, WVH_eq (validSlots_ok w), h1, h2, WB66, snFs, hotFs, snap_fn, WVH_eq (allFs_ok w.films _ _ (by omega) (fnv63 w) (says63 w _ hh.2)), h3, Bool.false_and, Bool.true_and]
  simp only [go_sem, Nat.reduceEqDiff, Nat.reduceAdd, Nat.reduceLT, Nat.reduceLeDiff, reduceIte, WCells, WEta, cellsIs, solidIs, cellsFs, solidFs, cellsDs, solidDs, Bool.and_self, Is_len, Fs_len, Ds_len, WB57, WVH_eq (isWithin_ok _ _ _), true_and, WB65, snW, hotW, WVH_eq (validSlots_ok w), h1, h2, WB66, snFs, hotFs, snap_fn, WVH_eq (allFs_ok w.films _ _ (by omega) (fnv63 w) (says63 w _ hh.2)), h3, Bool.true_and]
end Go.Ab.T
end

section
namespace Go.Ab.T
set_option maxRecDepth 8000
set_option maxHeartbeats 4000000
theorem Check_ok (w : Wk) : RV ft 14 [encW w] (I64 (chkW w)) := by
  refine RV_of ft14 rfl ?_
  simp only [c14, r14]
  unfold chkW
  cases h1 : wkOK w
  · simp only [go_sem, Nat.reduceEqDiff, Nat.reduceAdd, Nat.reduceLT, Nat.reduceLeDiff, reduceIte, WCells, WEta, FCells, FEta, DCells, DEta, cellsIs, solidIs, cellsFs, solidFs, cellsDs, solidDs, Bool.and_self, Is_len, Fs_len, Ds_len, WB38, WVH_eq (within_ok _ _ _), true_and, WB36, snW, hotW, WVH_eq (validWeek_ok w), h1, Bool.false_eq_true, if_false]
  have h1' := h1
  unfold wkOK at h1'
  simp only [Bool.and_eq_true, decide_eq_true_eq] at h1'
  cases h2 : w.deals.all (dlOK w)
  · simp only [go_sem, Nat.reduceEqDiff, Nat.reduceAdd, Nat.reduceLT, Nat.reduceLeDiff, reduceIte, WCells, WEta, FCells, FEta, DCells, DEta, cellsIs, solidIs, cellsFs, solidFs, cellsDs, solidDs, Bool.and_self, Is_len, Fs_len, Ds_len, WB38, WVH_eq (within_ok _ _ _), true_and, WB36, WB37, snW, hotW, WVH_eq (validWeek_ok w), WVH_eq (validDeals_ok w (by omega) (by omega)), h1, h2, Bool.false_eq_true, if_false, if_true]
  · simp only [go_sem, Nat.reduceEqDiff, Nat.reduceAdd, Nat.reduceLT, Nat.reduceLeDiff, reduceIte, WCells, WEta, FCells, FEta, DCells, DEta, cellsIs, solidIs, cellsFs, solidFs, cellsDs, solidDs, Bool.and_self, Is_len, Fs_len, Ds_len, WB38, WVH_eq (within_ok _ _ _), true_and, WB36, WB37, snW, hotW, WVH_eq (validWeek_ok w), WVH_eq (validDeals_ok w (by omega) (by omega)), h1, h2, if_true]
theorem isMovie_ok (hours : Int) (f : Mv) (h0 : hours ≤ 4) : RV ft 40 [I64 hours, encF f] (.bool (mvOK hours f)) := by
  refine RV_of ft40 rfl ?_
  simp only [c40, r40]
  unfold mvOK
  cases h1 : inR f.price 0 100
  · simp only [go_sem, Nat.reduceEqDiff, Nat.reduceAdd, Nat.reduceLT, Nat.reduceLeDiff, reduceIte, WCells, WEta, FCells, FEta, DCells, DEta, cellsIs, solidIs, cellsFs, solidFs, cellsDs, solidDs, Bool.and_self, Is_len, Fs_len, Ds_len, WB38, WVH_eq (within_ok _ _ _), true_and, h1, Bool.false_and]
  cases h2 : ((f.crowd.length : Int) == hours)
  · have h2' : ((f.crowd.length : Int) != hours) = true := by rw [bne, h2]; rfl
    simp only [go_sem, Nat.reduceEqDiff, Nat.reduceAdd, Nat.reduceLT, Nat.reduceLeDiff, reduceIte, WCells, WEta, FCells, FEta, DCells, DEta, cellsIs, solidIs, cellsFs, solidFs, cellsDs, solidDs, Bool.and_self, Is_len, Fs_len, Ds_len, WB38, WVH_eq (within_ok _ _ _), true_and, h1, h2', Bool.false_and, Bool.true_and]
  have h2' : ((f.crowd.length : Int) != hours) = false := by rw [bne, h2]; rfl
  have he : hours = (f.crowd.length : Int) := (eq_of_beq h2).symm
  subst he
  simp only [go_sem, Nat.reduceEqDiff, Nat.reduceAdd, Nat.reduceLT, Nat.reduceLeDiff, reduceIte, WCells, WEta, FCells, FEta, DCells, DEta, cellsIs, solidIs, cellsFs, solidFs, cellsDs, solidDs, Bool.and_self, Is_len, Fs_len, Ds_len, WB38, WVH_eq (within_ok _ _ _), true_and, h1, h2', Bool.true_and]
  refine WL_inv (α := Nat × List Int) (fun q e mm => e 0 = I64 f.crowd.length ∧ e 3 = .ptr 0 0 0 ∧ e 5 = I64 q.1 ∧ f.crowd.drop q.1 = q.2 ∧ (q.2.all fun c => inR c 0 999) = (f.crowd.all fun c => inR c 0 999) ∧ mm = ⟨[.live [encF f] 2], []⟩) (fun q => q.2.length) (0, f.crowd) ?_ ?_
  · simp only [go_sem, Nat.reduceEqDiff, Nat.reduceAdd, Nat.reduceLT, Nat.reduceLeDiff, reduceIte]
    ((repeat' apply And.intro) <;> first | trivial | rfl | omega | assumption)
  rintro ⟨k, r⟩ e m ⟨g0, g3, g5, hd, hq, rfl⟩
  dsimp only at g5 hd hq
  cases r with
  | nil =>
    have := drop_nil hd
    simp only [go_sem, Nat.reduceEqDiff, Nat.reduceAdd, Nat.reduceLT, Nat.reduceLeDiff, reduceIte, g0, g3, g5, dec_ge this]
    rw [← hq]; rfl
  | cons x r =>
    obtain ⟨hk, hd2, hlt⟩ := drop_cons hd
    cases h3 : inR x 0 999
    · simp only [go_sem, Nat.reduceEqDiff, Nat.reduceAdd, Nat.reduceLT, Nat.reduceLeDiff, reduceIte, g0, g3, g5, dec_lt hlt, WCells, WEta, FCells, FEta, DCells, DEta, cellsIs, solidIs, cellsFs, solidFs, cellsDs, solidDs, Bool.and_self, Is_len, Fs_len, Ds_len, WB38, WVH_eq (within_ok _ _ _), true_and, Is_idx _ hk, h3]
      rw [← hq, List.all_cons, h3]; rfl
    simp only [go_sem, Nat.reduceEqDiff, Nat.reduceAdd, Nat.reduceLT, Nat.reduceLeDiff, reduceIte, g0, g3, g5, dec_lt hlt, WCells, WEta, FCells, FEta, DCells, DEta, cellsIs, solidIs, cellsFs, solidFs, cellsDs, solidDs, Bool.and_self, Is_len, Fs_len, Ds_len, WB38, WVH_eq (within_ok _ _ _), true_and, Is_idx _ hk, h3, wrap_n1 k (by omega)]
    refine Nx_of (k + 1, r) (by simp) ?_
    simp only [go_sem, Nat.reduceEqDiff, Nat.reduceAdd, Nat.reduceLT, Nat.reduceLeDiff, reduceIte, g0, g3]
    exact ⟨trivial, trivial, trivial, hd2, by rw [← hq, List.all_cons, h3]; rfl, trivial⟩
theorem dlOK_split (w : Wk) (d : Dl) : dlOK w d = (inR d.kind 1 5 && (inR d.film 0 ((w.films.length : Int) - 1) && (inR d.times 0 8 && (!(d.times != 0 && (d.kind != 1 && d.kind != 2)) && (inR d.fr 0 d.to && (decide (d.to < w.days) && (inR d.early 0 d.late && (decide (d.late < w.hours) && inR d.seats 0 500)))))))) := by
  rw [Bool.eq_iff_iff]
  unfold dlOK tmOK inR
  by_cases k1 : d.kind = 1
  · simp [k1]; omega
  by_cases k2 : d.kind = 2
  · simp [k2]; omega
  by_cases k3 : d.kind = 3
  · simp [k3]; omega
  by_cases k4 : d.kind = 4
  · simp [k4]; omega
  by_cases k5 : d.kind = 5
  · simp [k5]; omega
  simp [k1, k2, k3, k4, k5]; omega
theorem isDeal_ok (w : Wk) (d : Dl) (hf : w.films.length ≤ 1000) : RV ft 41 [encW w, encD d] (.bool (dlOK w d)) := by
  refine RV_of ft41 rfl ?_
  simp only [c41, r41]
  have w1 : IntKind.i64.wrap ((w.films.length : Int) - 1) = (w.films.length : Int) - 1 := wrap_i64 _ (by omega) (by omega)
  rw [dlOK_split]
  cases h1 : inR d.kind 1 5
  · simp only [go_sem, Nat.reduceEqDiff, Nat.reduceAdd, Nat.reduceLT, Nat.reduceLeDiff, reduceIte, WCells, WEta, FCells, FEta, DCells, DEta, cellsIs, solidIs, cellsFs, solidFs, cellsDs, solidDs, Bool.and_self, Is_len, Fs_len, Ds_len, WB38, WVH_eq (within_ok _ _ _), true_and, w1, h1, Bool.false_and]
  cases h2 : inR d.film 0 ((w.films.length : Int) - 1)
  · simp only [go_sem, Nat.reduceEqDiff, Nat.reduceAdd, Nat.reduceLT, Nat.reduceLeDiff, reduceIte, WCells, WEta, FCells, FEta, DCells, DEta, cellsIs, solidIs, cellsFs, solidFs, cellsDs, solidDs, Bool.and_self, Is_len, Fs_len, Ds_len, WB38, WVH_eq (within_ok _ _ _), true_and, w1, h1, h2, Bool.false_and, Bool.true_and]
  cases h3 : inR d.times 0 8
  · simp only [go_sem, Nat.reduceEqDiff, Nat.reduceAdd, Nat.reduceLT, Nat.reduceLeDiff, reduceIte, WCells, WEta, FCells, FEta, DCells, DEta, cellsIs, solidIs, cellsFs, solidFs, cellsDs, solidDs, Bool.and_self, Is_len, Fs_len, Ds_len, WB38, WVH_eq (within_ok _ _ _), true_and, w1, h1, h2, h3, Bool.false_and, Bool.true_and]
  have tail : ∀ (b : Bool), True := fun _ => trivial
  cases h4 : d.times != 0
  case' true =>
    cases h5 : d.kind != 1
    case' true =>
      cases h6 : d.kind != 2
      case true => simp only [go_sem, Nat.reduceEqDiff, Nat.reduceAdd, Nat.reduceLT, Nat.reduceLeDiff, reduceIte, WCells, WEta, FCells, FEta, DCells, DEta, cellsIs, solidIs, cellsFs, solidFs, cellsDs, solidDs, Bool.and_self, Is_len, Fs_len, Ds_len, WB38, WVH_eq (within_ok _ _ _), true_and, w1, h1, h2, h3, h4, h5, h6, Bool.false_and, Bool.true_and, Bool.not_true]
  all_goals
    cases h7 : inR d.fr 0 d.to
    · simp only [go_sem, Nat.reduceEqDiff, Nat.reduceAdd, Nat.reduceLT, Nat.reduceLeDiff, reduceIte, WCells, WEta, FCells, FEta, DCells, DEta, cellsIs, solidIs, cellsFs, solidFs, cellsDs, solidDs, Bool.and_self, Is_len, Fs_len, Ds_len, WB38, WVH_eq (within_ok _ _ _), true_and, w1, h1, h2, h3, h4, *, h7, Bool.false_and, Bool.true_and, Bool.not_false]
    cases h8 : decide (d.to < w.days)
    · simp only [go_sem, Nat.reduceEqDiff, Nat.reduceAdd, Nat.reduceLT, Nat.reduceLeDiff, reduceIte, WCells, WEta, FCells, FEta, DCells, DEta, cellsIs, solidIs, cellsFs, solidFs, cellsDs, solidDs, Bool.and_self, Is_len, Fs_len, Ds_len, WB38, WVH_eq (within_ok _ _ _), true_and, w1, h1, h2, h3, h4, *, h7, h8, Bool.false_and, Bool.true_and, Bool.not_false]
    cases h9 : inR d.early 0 d.late
    · simp only [go_sem, Nat.reduceEqDiff, Nat.reduceAdd, Nat.reduceLT, Nat.reduceLeDiff, reduceIte, WCells, WEta, FCells, FEta, DCells, DEta, cellsIs, solidIs, cellsFs, solidFs, cellsDs, solidDs, Bool.and_self, Is_len, Fs_len, Ds_len, WB38, WVH_eq (within_ok _ _ _), true_and, w1, h1, h2, h3, h4, *, h7, h8, h9, Bool.false_and, Bool.true_and, Bool.not_false]
    cases h10 : decide (d.late < w.hours)
    · simp only [go_sem, Nat.reduceEqDiff, Nat.reduceAdd, Nat.reduceLT, Nat.reduceLeDiff, reduceIte, WCells, WEta, FCells, FEta, DCells, DEta, cellsIs, solidIs, cellsFs, solidFs, cellsDs, solidDs, Bool.and_self, Is_len, Fs_len, Ds_len, WB38, WVH_eq (within_ok _ _ _), true_and, w1, h1, h2, h3, h4, *, h7, h8, h9, h10, Bool.false_and, Bool.true_and, Bool.not_false]
    simp only [go_sem, Nat.reduceEqDiff, Nat.reduceAdd, Nat.reduceLT, Nat.reduceLeDiff, reduceIte, WCells, WEta, FCells, FEta, DCells, DEta, cellsIs, solidIs, cellsFs, solidFs, cellsDs, solidDs, Bool.and_self, Is_len, Fs_len, Ds_len, WB38, WVH_eq (within_ok _ _ _), true_and, w1, h1, h2, h3, h4, *, h7, h8, h9, h10, Bool.false_and, Bool.true_and, Bool.not_false]
end Go.Ab.T
end

section
namespace Go.Ab.T
set_option maxRecDepth 8000
set_option maxHeartbeats 4000000
theorem wk_split (w : Wk) : wkOK w = (inR w.days 1 7 && (inR w.rooms.length 1 4 && (inR w.hours 1 4 && (decide (w.slots ≤ 8) && (decide ((w.films.length : Int) ≤ 4) && (decide ((w.deals.length : Int) ≤ 8) && ((w.rooms.all fun r => inR r 1 500) && w.films.all (mvOK w.hours)))))))) := by
  unfold wkOK slotsOK
  ac_rfl
theorem CheckR_ok (w : Wk) : RV ft 15 [encW w] (I64 (chkW w)) := by
  refine RV_of ft15 rfl ?_
  simp only [c15, r15]
  have bad : wkOK w = false → chkW w = 50 := fun h => by unfold chkW; rw [h]; rfl
  have good : wkOK w = true → chkW w = if w.deals.all (dlOK w) = true then 0 else 51 := fun h => by unfold chkW; rw [h]; rfl
  rw [wk_split] at bad good
  cases h1 : inR w.days 1 7
  · have hb := bad (by rw [h1]; rfl)
    simp only [go_sem, Nat.reduceEqDiff, Nat.reduceAdd, Nat.reduceLT, Nat.reduceLeDiff, reduceIte, WCells, WEta, FCells, FEta, DCells, DEta, cellsIs, solidIs, cellsFs, solidFs, cellsDs, solidDs, Bool.and_self, Is_len, Fs_len, Ds_len, WB38, WVH_eq (within_ok _ _ _), true_and, snW, hotW, snD, hotD, snF, hotF, snIs, hotIs, h1, hb]
  cases h2 : inR w.rooms.length 1 4
  · have hb := bad (by rw [h1, h2]; rfl)
    simp only [go_sem, Nat.reduceEqDiff, Nat.reduceAdd, Nat.reduceLT, Nat.reduceLeDiff, reduceIte, WCells, WEta, FCells, FEta, DCells, DEta, cellsIs, solidIs, cellsFs, solidFs, cellsDs, solidDs, Bool.and_self, Is_len, Fs_len, Ds_len, WB38, WVH_eq (within_ok _ _ _), true_and, snW, hotW, snD, hotD, snF, hotF, snIs, hotIs, h1, h2, hb]
  cases h3 : inR w.hours 1 4
  · have hb := bad (by rw [h1, h2, h3]; rfl)
    simp only [go_sem, Nat.reduceEqDiff, Nat.reduceAdd, Nat.reduceLT, Nat.reduceLeDiff, reduceIte, WCells, WEta, FCells, FEta, DCells, DEta, cellsIs, solidIs, cellsFs, solidFs, cellsDs, solidDs, Bool.and_self, Is_len, Fs_len, Ds_len, WB38, WVH_eq (within_ok _ _ _), true_and, snW, hotW, snD, hotD, snF, hotF, snIs, hotIs, h1, h2, h3, hb]
  have hd := inR_iff.1 h1
  have hr := inR_iff.1 h2
  have hh := inR_iff.1 h3
  have hS := Slots_ok w (by omega) hd.2 (by omega) (by omega) hh.2
  cases h4 : decide ((8 : Int) < w.slots)
  case true =>
    have hb := bad (by rw [h1, h2, h3, decide_eq_false (show ¬w.slots ≤ 8 by have := of_decide_eq_true h4; omega)]; rfl)
    simp only [go_sem, Nat.reduceEqDiff, Nat.reduceAdd, Nat.reduceLT, Nat.reduceLeDiff, reduceIte, WCells, WEta, FCells, FEta, DCells, DEta, cellsIs, solidIs, cellsFs, solidFs, cellsDs, solidDs, Bool.and_self, Is_len, Fs_len, Ds_len, WB38, WVH_eq (within_ok _ _ _), true_and, snW, hotW, snD, hotD, snF, hotF, snIs, hotIs, WB39, WVH_eq hS, h1, h2, h3, h4, hb]
  have h4' : decide (w.slots ≤ 8) = true := decide_eq_true (by have := of_decide_eq_false h4; omega)
  cases h5 : decide ((4 : Int) < (w.films.length : Int))
  case true =>
    have hb := bad (by rw [h1, h2, h3, h4', decide_eq_false (show ¬(w.films.length : Int) ≤ 4 by have := of_decide_eq_true h5; omega)]; rfl)
    simp only [go_sem, Nat.reduceEqDiff, Nat.reduceAdd, Nat.reduceLT, Nat.reduceLeDiff, reduceIte, WCells, WEta, FCells, FEta, DCells, DEta, cellsIs, solidIs, cellsFs, solidFs, cellsDs, solidDs, Bool.and_self, Is_len, Fs_len, Ds_len, WB38, WVH_eq (within_ok _ _ _), true_and, snW, hotW, snD, hotD, snF, hotF, snIs, hotIs, WB39, WVH_eq hS, h1, h2, h3, h4, h5, hb]
  have hf := of_decide_eq_false h5
  have h5' : decide ((w.films.length : Int) ≤ 4) = true := decide_eq_true (by omega)
  cases h6 : decide ((8 : Int) < (w.deals.length : Int))
  case true =>
    have hb := bad (by rw [h1, h2, h3, h4', h5', decide_eq_false (show ¬(w.deals.length : Int) ≤ 8 by have := of_decide_eq_true h6; omega)]; rfl)
    simp only [go_sem, Nat.reduceEqDiff, Nat.reduceAdd, Nat.reduceLT, Nat.reduceLeDiff, reduceIte, WCells, WEta, FCells, FEta, DCells, DEta, cellsIs, solidIs, cellsFs, solidFs, cellsDs, solidDs, Bool.and_self, Is_len, Fs_len, Ds_len, WB38, WVH_eq (within_ok _ _ _), true_and, snW, hotW, snD, hotD, snF, hotF, snIs, hotIs, WB39, WVH_eq hS, h1, h2, h3, h4, h5, h6, hb]
  have hdl := of_decide_eq_false h6
  have h6' : decide ((w.deals.length : Int) ≤ 8) = true := decide_eq_true (by omega)
  rw [h1, h2, h3, h4', h5', h6'] at bad good
  simp only [Bool.true_and] at bad good
  simp only [go_sem, Nat.reduceEqDiff, Nat.reduceAdd, Nat.reduceLT, Nat.reduceLeDiff, reduceIte, WCells, WEta, FCells, FEta, DCells, DEta, cellsIs, solidIs, cellsFs, solidFs, cellsDs, solidDs, Bool.and_self, Is_len, Fs_len, Ds_len, WB38, WVH_eq (within_ok _ _ _), true_and, snW, hotW, snD, hotD, snF, hotF, snIs, hotIs, WB39, WVH_eq hS, h1, h2, h3, h4, h5, h6]
  refine WL_inv (α := Nat × List Int) (fun q e mm => e 1 = .ptr 0 0 0 ∧ e 3 = I64 q.1 ∧ w.rooms.drop q.1 = q.2 ∧ (q.2.all fun c => inR c 1 500) = (w.rooms.all fun c => inR c 1 500) ∧ mm = ⟨[.live [encW w] 5], []⟩) (fun q => q.2.length) (0, w.rooms) ?_ ?_
  · simp only [go_sem, Nat.reduceEqDiff, Nat.reduceAdd, Nat.reduceLT, Nat.reduceLeDiff, reduceIte]
    ((repeat' apply And.intro) <;> first | trivial | rfl | omega | assumption)
  rintro ⟨k, r⟩ e m ⟨g1, g3, hdr, hq, rfl⟩
  dsimp only at g3 hdr hq
  cases r with
  | cons x r =>
    obtain ⟨hk, hd2, hlt⟩ := drop_cons hdr
    cases h7 : inR x 1 500
    · have hb := bad (by rw [← hq, List.all_cons, h7]; rfl)
      simp only [go_sem, Nat.reduceEqDiff, Nat.reduceAdd, Nat.reduceLT, Nat.reduceLeDiff, reduceIte, g1, g3, WCells, WEta, FCells, FEta, DCells, DEta, cellsIs, solidIs, cellsFs, solidFs, cellsDs, solidDs, Bool.and_self, Is_len, Fs_len, Ds_len, WB38, WVH_eq (within_ok _ _ _), true_and, snW, hotW, snD, hotD, snF, hotF, snIs, hotIs, dec_lt hlt, Is_idx _ hk, h7, hb]
    simp only [go_sem, Nat.reduceEqDiff, Nat.reduceAdd, Nat.reduceLT, Nat.reduceLeDiff, reduceIte, g1, g3, WCells, WEta, FCells, FEta, DCells, DEta, cellsIs, solidIs, cellsFs, solidFs, cellsDs, solidDs, Bool.and_self, Is_len, Fs_len, Ds_len, WB38, WVH_eq (within_ok _ _ _), true_and, snW, hotW, snD, hotD, snF, hotF, snIs, hotIs, dec_lt hlt, Is_idx _ hk, h7, wrap_n1 k (by omega)]
    refine Nx_of (k + 1, r) (by simp) ?_
    simp only [go_sem, Nat.reduceEqDiff, Nat.reduceAdd, Nat.reduceLT, Nat.reduceLeDiff, reduceIte, g1]
    exact ⟨trivial, trivial, hd2, by rw [← hq, List.all_cons, h7]; rfl, trivial⟩
  | nil =>
  have hge := drop_nil hdr
  rw [← hq] at bad good
  simp only [List.all_nil, Bool.true_and] at bad good
  simp only [go_sem, Nat.reduceEqDiff, Nat.reduceAdd, Nat.reduceLT, Nat.reduceLeDiff, reduceIte, g1, g3, WCells, WEta, FCells, FEta, DCells, DEta, cellsIs, solidIs, cellsFs, solidFs, cellsDs, solidDs, Bool.and_self, Is_len, Fs_len, Ds_len, WB38, WVH_eq (within_ok _ _ _), true_and, snW, hotW, snD, hotD, snF, hotF, snIs, hotIs, dec_ge hge]
  refine WL_inv (α := Nat × List Mv) (fun q e mm => e 1 = .ptr 0 0 0 ∧ e 4 = I64 q.1 ∧ w.films.drop q.1 = q.2 ∧ (q.2.all (mvOK w.hours)) = (w.films.all (mvOK w.hours)) ∧ mm = ⟨[.live [encW w] 5], []⟩) (fun q => q.2.length) (0, w.films) ?_ ?_
  · simp only [go_sem, Nat.reduceEqDiff, Nat.reduceAdd, Nat.reduceLT, Nat.reduceLeDiff, reduceIte]
    ((repeat' apply And.intro) <;> first | trivial | rfl | omega | assumption)
  rintro ⟨k, r⟩ e m ⟨g1, g4, hdr, hq, rfl⟩
  dsimp only at g4 hdr hq
  cases r with
  | cons x r =>
    obtain ⟨hk, hd2, hlt⟩ := drop_cons hdr
    cases h7 : mvOK w.hours x
    · have hb := bad (by rw [← hq, List.all_cons, h7]; rfl)
      simp only [go_sem, Nat.reduceEqDiff, Nat.reduceAdd, Nat.reduceLT, Nat.reduceLeDiff, reduceIte, g1, g4, WCells, WEta, FCells, FEta, DCells, DEta, cellsIs, solidIs, cellsFs, solidFs, cellsDs, solidDs, Bool.and_self, Is_len, Fs_len, Ds_len, WB38, WVH_eq (within_ok _ _ _), true_and, snW, hotW, snD, hotD, snF, hotF, snIs, hotIs, dec_lt hlt, Fs_idx _ hk, WB40, WVH_eq (isMovie_ok w.hours x hh.2), h7, hb]
    simp only [go_sem, Nat.reduceEqDiff, Nat.reduceAdd, Nat.reduceLT, Nat.reduceLeDiff, reduceIte, g1, g4, WCells, WEta, FCells, FEta, DCells, DEta, cellsIs, solidIs, cellsFs, solidFs, cellsDs, solidDs, Bool.and_self, Is_len, Fs_len, Ds_len, WB38, WVH_eq (within_ok _ _ _), true_and, snW, hotW, snD, hotD, snF, hotF, snIs, hotIs, dec_lt hlt, Fs_idx _ hk, WB40, WVH_eq (isMovie_ok w.hours x hh.2), h7, wrap_n1 k (by omega)]
    refine Nx_of (k + 1, r) (by simp) ?_
    simp only [go_sem, Nat.reduceEqDiff, Nat.reduceAdd, Nat.reduceLT, Nat.reduceLeDiff, reduceIte, g1]
    exact ⟨trivial, trivial, hd2, by rw [← hq, List.all_cons, h7]; rfl, trivial⟩
  | nil =>
  have hge := drop_nil hdr
  have hg := good (by rw [← hq]; rfl)
  simp only [go_sem, Nat.reduceEqDiff, Nat.reduceAdd, Nat.reduceLT, Nat.reduceLeDiff, reduceIte, g1, g4, WCells, WEta, FCells, FEta, DCells, DEta, cellsIs, solidIs, cellsFs, solidFs, cellsDs, solidDs, Bool.and_self, Is_len, Fs_len, Ds_len, WB38, WVH_eq (within_ok _ _ _), true_and, snW, hotW, snD, hotD, snF, hotF, snIs, hotIs, dec_ge hge]
  refine WL_inv (α := Nat × List Dl) (fun q e mm => e 1 = .ptr 0 0 0 ∧ e 5 = I64 q.1 ∧ w.deals.drop q.1 = q.2 ∧ (q.2.all (dlOK w)) = (w.deals.all (dlOK w)) ∧ mm = ⟨[.live [encW w] 5], []⟩) (fun q => q.2.length) (0, w.deals) ?_ ?_
  · simp only [go_sem, Nat.reduceEqDiff, Nat.reduceAdd, Nat.reduceLT, Nat.reduceLeDiff, reduceIte]
    ((repeat' apply And.intro) <;> first | trivial | rfl | omega | assumption)
  rintro ⟨k, r⟩ e m ⟨g1, g5, hdr, hq, rfl⟩
  dsimp only at g5 hdr hq
  cases r with
  | cons x r =>
    obtain ⟨hk, hd2, hlt⟩ := drop_cons hdr
    cases h7 : dlOK w x
    · have hb : chkW w = 51 := by rw [hg, ← hq, List.all_cons, h7]; rfl
      simp only [go_sem, Nat.reduceEqDiff, Nat.reduceAdd, Nat.reduceLT, Nat.reduceLeDiff, reduceIte, g1, g5, WCells, WEta, FCells, FEta, DCells, DEta, cellsIs, solidIs, cellsFs, solidFs, cellsDs, solidDs, Bool.and_self, Is_len, Fs_len, Ds_len, WB38, WVH_eq (within_ok _ _ _), true_and, snW, hotW, snD, hotD, snF, hotF, snIs, hotIs, dec_lt hlt, Ds_idx _ hk, WB41, WVH_eq (isDeal_ok w x (by omega)), h7, hb]
    simp only [go_sem, Nat.reduceEqDiff, Nat.reduceAdd, Nat.reduceLT, Nat.reduceLeDiff, reduceIte, g1, g5, WCells, WEta, FCells, FEta, DCells, DEta, cellsIs, solidIs, cellsFs, solidFs, cellsDs, solidDs, Bool.and_self, Is_len, Fs_len, Ds_len, WB38, WVH_eq (within_ok _ _ _), true_and, snW, hotW, snD, hotD, snF, hotF, snIs, hotIs, dec_lt hlt, Ds_idx _ hk, WB41, WVH_eq (isDeal_ok w x (by omega)), h7, wrap_n1 k (by omega)]
    refine Nx_of (k + 1, r) (by simp) ?_
    simp only [go_sem, Nat.reduceEqDiff, Nat.reduceAdd, Nat.reduceLT, Nat.reduceLeDiff, reduceIte, g1]
    exact ⟨trivial, trivial, hd2, by rw [← hq, List.all_cons, h7]; rfl, trivial⟩
  | nil =>
  have hge := drop_nil hdr
  have hb : chkW w = 0 := by rw [hg, ← hq]; rfl
  simp only [go_sem, Nat.reduceEqDiff, Nat.reduceAdd, Nat.reduceLT, Nat.reduceLeDiff, reduceIte, g1, g5, WCells, WEta, FCells, FEta, DCells, DEta, cellsIs, solidIs, cellsFs, solidFs, cellsDs, solidDs, Bool.and_self, Is_len, Fs_len, Ds_len, WB38, WVH_eq (within_ok _ _ _), true_and, snW, hotW, snD, hotD, snF, hotF, snIs, hotIs, dec_ge hge, hb]
end Go.Ab.T
end
