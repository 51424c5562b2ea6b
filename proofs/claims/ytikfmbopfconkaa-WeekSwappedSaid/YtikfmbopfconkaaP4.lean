/-
  A part of the proofs over this seat.
  (The texts KwK15 KwK16 KwK17 KwM3, one behind the other.)
-/
import Derived.Test.YtikfmbopfconkaaP3
set_option linter.unusedSimpArgs false
set_option linter.unusedVariables false
set_option linter.unusedSectionVars false
section
namespace Go.Ab.T
set_option maxRecDepth 8000
set_option maxHeartbeats 4000000
theorem Ns_sn (m : Mem) (q : Nat) (l : List Nat) : snap m (q + 2) (encNs l) = encNs l := by
  show AV.sl ((l.map fun (n : Nat) => I64 (n : Int)).map (snap m (q + 1))) .unk = _
  rw [List.map_map]; rfl
theorem Ns_hot (q : Nat) (l : List Nat) : hot (q + 2) (encNs l) = false := by
  show (l.map fun (n : Nat) => I64 (n : Int)).any (hot (q + 1)) = false
  rw [List.any_map, List.any_eq_false]; intro x _; simp only [Function.comp]; rw [show hot (q + 1) (I64 (x : Int)) = false from rfl]; decide
theorem cellsNs (l : List Nat) : (encNs l).cells = [encNs l] := rfl
theorem solidNs (l : List Nat) : (encNs l).solid = true := rfl
def nH (d : Dl) : Nat := d.late.toNat + 1 - d.early.toNat
def nD (d : Dl) : Nat := d.to.toNat + 1 - d.fr.toNat
def cleanR (w : Wk) (p : List Int) (d : Dl) (day : Nat) : Bool := anyN w.rooms.length 0 fun s => decide (showsN w p d day 1 d.early.toNat (nH d) s 1 = nH d)
def hourR (w : Wk) (p : List Int) (d : Dl) (day h : Nat) : Bool := (d.kind == 4 && decide (1 < showsN w p d day 1 h 1 0 w.rooms.length)) || (d.kind == 5 && decide (showsN w p d day 1 h 1 0 w.rooms.length = 0))
def dayR (w : Wk) (p : List Int) (d : Dl) (day : Nat) : Bool := !(d.kind == 3 && !cleanR w p d day) && allN (nH d) d.early.toNat fun h => !hourR w p d day h
def allR (w : Wk) (p : List Int) (d : Dl) : Nat := showsN w p d d.fr.toNat (nD d) d.early.toNat (nH d) 0 w.rooms.length
def keptR (w : Wk) (p : List Int) (d : Dl) : Bool :=
  if (d.kind == 1) = true then decide (d.times ≤ (allR w p d : Int))
  else if (d.kind == 2) = true then decide ((allR w p d : Int) ≤ d.times)
  else allN (nD d) d.fr.toNat fun day => dayR w p d day
theorem beq_nat0 (a : Nat) : ((a : Int) == 0) = decide (a = 0) := by rw [Bool.eq_iff_iff, beq_iff_eq, decide_eq_true_eq]; omega
theorem dec_1 (a : Nat) : decide ((1 : Int) < (a : Int)) = decide (1 < a) := decide_eq_decide.2 (by omega)
theorem isKept_ok (w : Wk) (hw : WV w) (p : List Int) (hp : progOK w p = true) (d : Dl) (hd : DV w d) : RV ft 74 [encW w, encIs p, encD d] (.bool (keptR w p d)) := by
  refine RV_of ft74 rfl ?_
  simp only [c74, r74]
  have b1 := hw.d2
  have b2 := hw.h2
  have b3 := hw.r2
  have b4 := hw.h1
  have r1 := hw.r1
  have e0 := hd.e0
  have el := hd.el
  have l := hd.l
  have f0 := hd.f0
  have fT := hd.ft
  have t := hd.t
  have hE : ((d.early.toNat : Nat) : Int) = d.early := Int.toNat_of_nonneg e0
  have hF : ((d.fr.toNat : Nat) : Int) = d.fr := Int.toNat_of_nonneg f0
  have hnH : ((nH d : Nat) : Int) = d.late - d.early + 1 := by unfold nH; omega
  have hnD : ((nD d : Nat) : Int) = d.to - d.fr + 1 := by unfold nD; omega
  have w1 : IntKind.i64.wrap ((w.rooms.length : Int) - 1) = (w.rooms.length : Int) - 1 := wrap_i64 _ (by omega) (by omega)
  have w2 : IntKind.i64.wrap (d.late - d.early) = d.late - d.early := wrap_i64 _ (by omega) (by omega)
  have w3 : IntKind.i64.wrap (d.late - d.early + 1) = ((nH d : Nat) : Int) := by rw [wrap_i64 _ (by omega) (by omega)]; omega
  have hall := shows_ok w hw p hp d d.fr.toNat (nD d) d.early.toNat (nH d) 0 w.rooms.length d.to d.late ((w.rooms.length : Int) - 1) (by omega) (by omega) (by omega) t l (by omega)
  rw [hF, hE, show (((0 : Nat) : Nat) : Int) = 0 from rfl] at hall
  generalize hTT : keptR w p d = T
  have hT := hTT
  unfold keptR at hT
  cases k1 : d.kind == 1
  case true => rw [k1, if_pos rfl] at hT; rw [← hT]; simp only [go_sem, Nat.reduceEqDiff, Nat.reduceAdd, Nat.reduceLT, Nat.reduceLeDiff, reduceIte, WCells, WEta, DCells, DEta, cellsIs, solidIs, cellsFs, solidFs, cellsDs, solidDs, Bool.and_self, Is_len, Fs_len, Ds_len, true_and, snW, hotW, snD, hotD, snIs, hotIs, w1, WB94, WVH_eq hall, k1]; rfl
  cases k2 : d.kind == 2
  case true => rw [k1, k2, if_neg (by decide), if_pos rfl] at hT; rw [← hT]; simp only [go_sem, Nat.reduceEqDiff, Nat.reduceAdd, Nat.reduceLT, Nat.reduceLeDiff, reduceIte, WCells, WEta, DCells, DEta, cellsIs, solidIs, cellsFs, solidFs, cellsDs, solidDs, Bool.and_self, Is_len, Fs_len, Ds_len, true_and, snW, hotW, snD, hotD, snIs, hotIs, w1, WB94, WVH_eq hall, k1, k2]; rfl
  rw [k1, k2, if_neg (by decide), if_neg (by decide)] at hT
  simp only [go_sem, Nat.reduceEqDiff, Nat.reduceAdd, Nat.reduceLT, Nat.reduceLeDiff, reduceIte, WCells, WEta, DCells, DEta, cellsIs, solidIs, cellsFs, solidFs, cellsDs, solidDs, Bool.and_self, Is_len, Fs_len, Ds_len, true_and, snW, hotW, snD, hotD, snIs, hotIs, w1, WB94, WVH_eq hall, k1, k2]
  refine WL_inv (α := Nat × Nat) (fun q e mm => e 1 = encIs p ∧ e 3 = .ptr 0 0 0 ∧ e 5 = .ptr 1 0 0 ∧ e 7 = I64 ((w.rooms.length : Int) - 1) ∧ e 9 = I64 q.1 ∧ q.1 + q.2 = d.to.toNat + 1 ∧ (allN q.2 q.1 fun day => dayR w p d day) = T ∧ mm = ⟨[.live [encW w] 5, .live [encD d] 8], []⟩) (fun q => q.2) (d.fr.toNat, nD d) ?_ ?_
  · simp only [go_sem, Nat.reduceEqDiff, Nat.reduceAdd, Nat.reduceLT, Nat.reduceLeDiff, reduceIte]
    exact ⟨trivial, trivial, trivial, trivial, by rw [hF], by omega, hT, trivial⟩
  rintro ⟨day, n⟩ e m ⟨g1, g3, g5, g7, g9, hs, hq, rfl⟩
  dsimp only at g9 hs hq
  cases n with
  | zero =>
    have hd' : decide ((day : Int) ≤ d.to) = false := decide_eq_false (by omega)
    simp only [go_sem, Nat.reduceEqDiff, Nat.reduceAdd, Nat.reduceLT, Nat.reduceLeDiff, reduceIte, g1, g3, g5, g7, g9, WCells, WEta, DCells, DEta, cellsIs, solidIs, cellsFs, solidFs, cellsDs, solidDs, Bool.and_self, Is_len, Fs_len, Ds_len, true_and, snW, hotW, snD, hotD, snIs, hotIs, hd', show T = true from hq.symm]
  | succ n =>
    have hd' : decide ((day : Int) ≤ d.to) = true := decide_eq_true (by omega)
    rw [allN] at hq
    simp only [go_sem, Nat.reduceEqDiff, Nat.reduceAdd, Nat.reduceLT, Nat.reduceLeDiff, reduceIte, g1, g3, g5, g7, g9, WCells, WEta, DCells, DEta, cellsIs, solidIs, cellsFs, solidFs, cellsDs, solidDs, Bool.and_self, Is_len, Fs_len, Ds_len, true_and, snW, hotW, snD, hotD, snIs, hotIs, hd']
    refine WL_inv (α := Nat × Nat × Bool) (fun q e mm => e 1 = encIs p ∧ e 3 = .ptr 0 0 0 ∧ e 5 = .ptr 1 0 0 ∧ e 7 = I64 ((w.rooms.length : Int) - 1) ∧ e 9 = I64 day ∧ e 10 = .bool q.2.2 ∧ e 11 = I64 q.1 ∧ q.1 + q.2.1 = w.rooms.length ∧ (q.2.2 || anyN q.2.1 q.1 fun s => decide (showsN w p d day 1 d.early.toNat (nH d) s 1 = nH d)) = cleanR w p d day ∧ mm = ⟨[.live [encW w] 5, .live [encD d] 8], []⟩) (fun q => q.2.1) (0, w.rooms.length, false) ?_ ?_
    · simp only [go_sem, Nat.reduceEqDiff, Nat.reduceAdd, Nat.reduceLT, Nat.reduceLeDiff, reduceIte, g1, g3, g5, g7, g9]
      exact ⟨trivial, trivial, trivial, trivial, trivial, trivial, rfl, by omega, rfl, trivial⟩
    rintro ⟨s, k, cl⟩ e m ⟨g1, g3, g5, g7, g9, g10, g11, hs2, hc, rfl⟩
    dsimp only at g10 g11 hs2 hc
    cases k with
    | succ k =>
      have hd2 : decide ((s : Int) ≤ (w.rooms.length : Int) - 1) = true := decide_eq_true (by omega)
      rw [anyN] at hc
      cases cl with
      | true =>
        simp only [go_sem, Nat.reduceEqDiff, Nat.reduceAdd, Nat.reduceLT, Nat.reduceLeDiff, reduceIte, g1, g3, g5, g7, g9, g10, g11, hd2, wrap_n1 s (by omega)]
        refine Nx_of (s + 1, k, true) (by simp) ?_
        simp only [go_sem, Nat.reduceEqDiff, Nat.reduceAdd, Nat.reduceLT, Nat.reduceLeDiff, reduceIte, g1, g3, g5, g7, g9]
        exact ⟨trivial, trivial, trivial, trivial, trivial, trivial, trivial, by omega, by rw [← hc]; simp, trivial⟩
      | false =>
        have hsh := shows_ok w hw p hp d day 1 d.early.toNat (nH d) s 1 (day : Int) d.late (s : Int) (by omega) (by omega) (by omega) (by omega) l (by omega)
        rw [hE] at hsh
        simp only [go_sem, Nat.reduceEqDiff, Nat.reduceAdd, Nat.reduceLT, Nat.reduceLeDiff, reduceIte, g1, g3, g5, g7, g9, g10, g11, hd2, WCells, WEta, DCells, DEta, cellsIs, solidIs, cellsFs, solidFs, cellsDs, solidDs, Bool.and_self, Is_len, Fs_len, Ds_len, true_and, snW, hotW, snD, hotD, snIs, hotIs, WB94, WVH_eq hsh, w2, w3, beq_nat, wrap_n1 s (by omega)]
        refine Nx_of (s + 1, k, decide (showsN w p d day 1 d.early.toNat (nH d) s 1 = nH d)) (by simp) ?_
        simp only [go_sem, Nat.reduceEqDiff, Nat.reduceAdd, Nat.reduceLT, Nat.reduceLeDiff, reduceIte, g1, g3, g5, g7, g9]
        exact ⟨trivial, trivial, trivial, trivial, trivial, trivial, trivial, by omega, by rw [← hc]; simp, trivial⟩
    | zero =>
      have hd2 : decide ((s : Int) ≤ (w.rooms.length : Int) - 1) = false := decide_eq_false (by omega)
      simp only [anyN, Bool.or_false] at hc
      subst hc
      have hgo : (!(d.kind == 3 && !cleanR w p d day)) = true → dayR w p d day = allN (nH d) d.early.toNat fun h => !hourR w p d day h := fun h => by unfold dayR; rw [h, Bool.true_and]
      cases h3 : d.kind == 3
      case' true =>
        cases hcl : cleanR w p d day
        case false =>
          have hf : T = false := by rw [← hq]; unfold dayR; rw [h3, hcl]; rfl
          simp only [go_sem, Nat.reduceEqDiff, Nat.reduceAdd, Nat.reduceLT, Nat.reduceLeDiff, reduceIte, g1, g3, g5, g7, g9, g10, g11, hd2, WCells, WEta, DCells, DEta, cellsIs, solidIs, cellsFs, solidFs, cellsDs, solidDs, Bool.and_self, Is_len, Fs_len, Ds_len, true_and, snW, hotW, snD, hotD, snIs, hotIs, h3, hcl, hf]
        rw [hgo (by rw [hcl]; simp)] at hq
        simp only [go_sem, Nat.reduceEqDiff, Nat.reduceAdd, Nat.reduceLT, Nat.reduceLeDiff, reduceIte, g1, g3, g5, g7, g9, g10, g11, hd2, WCells, WEta, DCells, DEta, cellsIs, solidIs, cellsFs, solidFs, cellsDs, solidDs, Bool.and_self, Is_len, Fs_len, Ds_len, true_and, snW, hotW, snD, hotD, snIs, hotIs, h3, hcl]
      case' false =>
        rw [hgo (by rw [h3]; rfl)] at hq
        simp only [go_sem, Nat.reduceEqDiff, Nat.reduceAdd, Nat.reduceLT, Nat.reduceLeDiff, reduceIte, g1, g3, g5, g7, g9, g10, g11, hd2, WCells, WEta, DCells, DEta, cellsIs, solidIs, cellsFs, solidFs, cellsDs, solidDs, Bool.and_self, Is_len, Fs_len, Ds_len, true_and, snW, hotW, snD, hotD, snIs, hotIs, h3]
      all_goals
        refine WL_inv (α := Nat × Nat) (fun q e mm => e 1 = encIs p ∧ e 3 = .ptr 0 0 0 ∧ e 5 = .ptr 1 0 0 ∧ e 7 = I64 ((w.rooms.length : Int) - 1) ∧ e 9 = I64 day ∧ e 12 = I64 q.1 ∧ q.1 + q.2 = d.late.toNat + 1 ∧ ((allN q.2 q.1 fun h => !hourR w p d day h) && allN n (day + 1) fun day => dayR w p d day) = T ∧ mm = ⟨[.live [encW w] 5, .live [encD d] 8], []⟩) (fun q => q.2) (d.early.toNat, nH d) ?_ ?_
        · simp only [go_sem, Nat.reduceEqDiff, Nat.reduceAdd, Nat.reduceLT, Nat.reduceLeDiff, reduceIte, g1, g3, g5, g7, g9]
          exact ⟨trivial, trivial, trivial, trivial, trivial, by rw [hE], by unfold nH; omega, hq, trivial⟩
        rintro ⟨h, k⟩ e m ⟨g1, g3, g5, g7, g9, g12, hs3, hq, rfl⟩
        dsimp only at g12 hs3 hq
        cases k with
        | zero =>
          have hd3 : decide ((h : Int) ≤ d.late) = false := decide_eq_false (by omega)
          simp only [go_sem, Nat.reduceEqDiff, Nat.reduceAdd, Nat.reduceLT, Nat.reduceLeDiff, reduceIte, g1, g3, g5, g7, g9, g12, hd3, WCells, WEta, DCells, DEta, cellsIs, solidIs, cellsFs, solidFs, cellsDs, solidDs, Bool.and_self, Is_len, Fs_len, Ds_len, true_and, snW, hotW, snD, hotD, snIs, hotIs, wrap_n1 day (by omega)]
          refine Nx_of (day + 1, n) (by simp) ?_
          simp only [go_sem, Nat.reduceEqDiff, Nat.reduceAdd, Nat.reduceLT, Nat.reduceLeDiff, reduceIte, g1, g3, g5, g7]
          exact ⟨trivial, trivial, trivial, trivial, trivial, by omega, hq, trivial⟩
        | succ k =>
          have hd3 : decide ((h : Int) ≤ d.late) = true := decide_eq_true (by omega)
          have hsh := shows_ok w hw p hp d day 1 h 1 0 w.rooms.length (day : Int) (h : Int) ((w.rooms.length : Int) - 1) (by omega) (by omega) (by omega) (by omega) (by omega) (by omega)
          rw [show (((0 : Nat) : Nat) : Int) = 0 from rfl] at hsh
          rw [allN] at hq
          cases k4 : d.kind == 4
          case' true =>
            have k5 : (d.kind == 5) = false := by rw [beq_iff_eq] at k4; rw [k4]; rfl
            cases n4 : decide (1 < showsN w p d day 1 h 1 0 w.rooms.length)
            case true =>
              have hr : hourR w p d day h = true := by unfold hourR; rw [k4, n4]; rfl
              have hf : T = false := by rw [← hq, hr]; rfl
              simp only [go_sem, Nat.reduceEqDiff, Nat.reduceAdd, Nat.reduceLT, Nat.reduceLeDiff, reduceIte, g1, g3, g5, g7, g9, g12, hd3, WCells, WEta, DCells, DEta, cellsIs, solidIs, cellsFs, solidFs, cellsDs, solidDs, Bool.and_self, Is_len, Fs_len, Ds_len, true_and, snW, hotW, snD, hotD, snIs, hotIs, WB94, WVH_eq hsh, k4, dec_1, n4, hf]
            have hr : hourR w p d day h = false := by unfold hourR; rw [k4, n4, k5]; rfl
            simp only [go_sem, Nat.reduceEqDiff, Nat.reduceAdd, Nat.reduceLT, Nat.reduceLeDiff, reduceIte, g1, g3, g5, g7, g9, g12, hd3, WCells, WEta, DCells, DEta, cellsIs, solidIs, cellsFs, solidFs, cellsDs, solidDs, Bool.and_self, Is_len, Fs_len, Ds_len, true_and, snW, hotW, snD, hotD, snIs, hotIs, WB94, WVH_eq hsh, k4, k5, dec_1, n4, wrap_n1 h (by omega)]
          case' false =>
            cases k5 : d.kind == 5
            case' true =>
              cases n5 : decide (showsN w p d day 1 h 1 0 w.rooms.length = 0)
              case true =>
                have hr : hourR w p d day h = true := by unfold hourR; rw [k4, k5, n5]; rfl
                have hf : T = false := by rw [← hq, hr]; rfl
                simp only [go_sem, Nat.reduceEqDiff, Nat.reduceAdd, Nat.reduceLT, Nat.reduceLeDiff, reduceIte, g1, g3, g5, g7, g9, g12, hd3, WCells, WEta, DCells, DEta, cellsIs, solidIs, cellsFs, solidFs, cellsDs, solidDs, Bool.and_self, Is_len, Fs_len, Ds_len, true_and, snW, hotW, snD, hotD, snIs, hotIs, WB94, WVH_eq hsh, k4, k5, beq_nat0, n5, hf]
              have hr : hourR w p d day h = false := by unfold hourR; rw [k4, k5, n5]; rfl
              simp only [go_sem, Nat.reduceEqDiff, Nat.reduceAdd, Nat.reduceLT, Nat.reduceLeDiff, reduceIte, g1, g3, g5, g7, g9, g12, hd3, WCells, WEta, DCells, DEta, cellsIs, solidIs, cellsFs, solidFs, cellsDs, solidDs, Bool.and_self, Is_len, Fs_len, Ds_len, true_and, snW, hotW, snD, hotD, snIs, hotIs, WB94, WVH_eq hsh, k4, k5, beq_nat0, n5, wrap_n1 h (by omega)]
            case' false =>
              have hr : hourR w p d day h = false := by unfold hourR; rw [k4, k5]; rfl
              simp only [go_sem, Nat.reduceEqDiff, Nat.reduceAdd, Nat.reduceLT, Nat.reduceLeDiff, reduceIte, g1, g3, g5, g7, g9, g12, hd3, WCells, WEta, DCells, DEta, cellsIs, solidIs, cellsFs, solidFs, cellsDs, solidDs, Bool.and_self, Is_len, Fs_len, Ds_len, true_and, snW, hotW, snD, hotD, snIs, hotIs, WB94, WVH_eq hsh, k4, k5, wrap_n1 h (by omega)]
          all_goals
            refine Nx_of (h + 1, k) (by simp) ?_
            simp only [go_sem, Nat.reduceEqDiff, Nat.reduceAdd, Nat.reduceLT, Nat.reduceLeDiff, reduceIte, g1, g3, g5, g7, g9]
            exact ⟨trivial, trivial, trivial, trivial, trivial, trivial, by omega, by rw [← hq, hr]; rfl, trivial⟩
/-- The deals that the reference calls broken. -/
def brokenR (w : Wk) (p : List Int) : List Dl → Nat → List Nat
  | [], _ => []
  | d :: r, k => if keptR w p d = true then brokenR w p r (k + 1) else k :: brokenR w p r (k + 1)
theorem broken_ok (w : Wk) (hw : WV w) (hds : ∀ d ∈ w.deals, DV w d) (p : List Int) (hp : progOK w p = true) : RV ft 46 [encW w, encIs p] (encNs (brokenR w p w.deals 0)) := by
  refine RV_of ft46 rfl ?_
  simp only [c46, r46]
  have hD := hw.d
  simp only [go_sem, Nat.reduceEqDiff, Nat.reduceAdd, Nat.reduceLT, Nat.reduceLeDiff, reduceIte, WCells, WEta, DCells, DEta, cellsIs, solidIs, cellsFs, solidFs, cellsDs, solidDs, Bool.and_self, Is_len, Fs_len, Ds_len, true_and, snW, hotW, snD, hotD, snIs, hotIs]
  refine WL_inv (α := Nat × List Dl × List Nat) (fun q e mm => e 1 = encIs p ∧ e 2 = .ptr 0 0 0 ∧ e 6 = I64 q.1 ∧ w.deals.drop q.1 = q.2.1 ∧ q.2.2 ++ brokenR w p q.2.1 q.1 = brokenR w p w.deals 0 ∧ q.2.2.length ≤ q.1 ∧ ∃ v toks, e 5 = v ∧ Acc 3 (q.2.2.map fun (n : Nat) => I64 (n : Int)) v toks ∧ mm = ⟨[.live [encW w] 5], toks⟩) (fun q => q.2.1.length) (0, w.deals, []) ?_ ?_
  · simp only [go_sem, Nat.reduceEqDiff, Nat.reduceAdd, Nat.reduceLT, Nat.reduceLeDiff, reduceIte]
    exact ⟨trivial, trivial, rfl, trivial, trivial, trivial, _, _, rfl, Acc_nil 3, rfl⟩
  rintro ⟨k, r, acc⟩ e m ⟨g1, g2, g6, hdr, hq, hl, v, toks, g5, hA, rfl⟩
  dsimp only at g6 hdr hq hl hA
  obtain ⟨c1, c2, c3⟩ := hA.cells
  cases r with
  | nil =>
    have hge := drop_nil hdr
    simp only [go_sem, Nat.reduceEqDiff, Nat.reduceAdd, Nat.reduceLT, Nat.reduceLeDiff, reduceIte, g1, g2, g5, g6, WCells, WEta, DCells, DEta, cellsIs, solidIs, cellsFs, solidFs, cellsDs, solidDs, Bool.and_self, Is_len, Fs_len, Ds_len, true_and, snW, hotW, snD, hotD, snIs, hotIs, dec_ge hge, c1, c2, c3, snNs hA]
    rw [← hq]; simp [brokenR]
  | cons d r =>
    obtain ⟨hk, hd2, hlt⟩ := drop_cons hdr
    have hdv := hds d (List.mem_of_getElem? hk)
    cases h2 : keptR w p d
    · simp only [go_sem, Nat.reduceEqDiff, Nat.reduceAdd, Nat.reduceLT, Nat.reduceLeDiff, reduceIte, g1, g2, g5, g6, dec_lt hlt, Ds_idx _ hk, WCells, WEta, DCells, DEta, cellsIs, solidIs, cellsFs, solidFs, cellsDs, solidDs, Bool.and_self, Is_len, Fs_len, Ds_len, true_and, snW, hotW, snD, hotD, snIs, hotIs, h2, WB74, WVH_eq (isKept_ok w hw p hp d hdv), c1, c2, c3]
      refine hA.app (fun e he => by obtain ⟨z, _, rfl⟩ := List.mem_map.1 he; rfl) rfl (by simp only [List.length_map, limit]; omega) fun v' toks' hA' => ?_
      obtain ⟨d1, d2, d3⟩ := hA'.cells
      simp only [go_sem, Nat.reduceEqDiff, Nat.reduceAdd, Nat.reduceLT, Nat.reduceLeDiff, reduceIte, g1, g2, g6, d1, d2, d3, wrap_n1 k (by omega)]
      refine Nx_of (k + 1, r, acc ++ [k]) (by simp) ?_
      simp only [go_sem, Nat.reduceEqDiff, Nat.reduceAdd, Nat.reduceLT, Nat.reduceLeDiff, reduceIte, g1, g2]
      exact ⟨trivial, trivial, trivial, hd2, by rw [← hq, brokenR, h2]; simp, by simp; omega, _, _, rfl, by rw [List.map_append]; exact hA', rfl⟩
    · simp only [go_sem, Nat.reduceEqDiff, Nat.reduceAdd, Nat.reduceLT, Nat.reduceLeDiff, reduceIte, g1, g2, g5, g6, dec_lt hlt, Ds_idx _ hk, WCells, WEta, DCells, DEta, cellsIs, solidIs, cellsFs, solidFs, cellsDs, solidDs, Bool.and_self, Is_len, Fs_len, Ds_len, true_and, snW, hotW, snD, hotD, snIs, hotIs, h2, WB74, WVH_eq (isKept_ok w hw p hp d hdv), wrap_n1 k (by omega)]
      refine Nx_of (k + 1, r, acc) (by simp) ?_
      simp only [go_sem, Nat.reduceEqDiff, Nat.reduceAdd, Nat.reduceLT, Nat.reduceLeDiff, reduceIte, g1, g2, g5]
      exact ⟨trivial, trivial, trivial, hd2, by rw [← hq, brokenR, h2]; simp, by omega, _, _, rfl, hA, rfl⟩
theorem BrokenR_ok (w : Wk) (p : List Int) (hl : p.length < 1073741824) : RV ft 17 [encW w, encIs p] (.tup [encNs (if chkP w p = 0 then brokenR w p w.deals 0 else []), I64 (chkP w p)]) := by
  refine RV_of ft17 rfl ?_
  simp only [c17, r17]
  by_cases h0 : chkP w p = 0
  case neg =>
    have n0 : (chkP w p != 0) = true := by rw [bne, beq_eq_false_iff_ne.2 h0]; rfl
    simp only [go_sem, Nat.reduceEqDiff, Nat.reduceAdd, Nat.reduceLT, Nat.reduceLeDiff, reduceIte, WCells, WEta, DCells, DEta, cellsIs, solidIs, cellsFs, solidFs, cellsDs, solidDs, Bool.and_self, Is_len, Fs_len, Ds_len, true_and, snW, hotW, snD, hotD, snIs, hotIs, WB45, WVH_eq (check_ok w p hl), n0, if_neg h0]
    rfl
  obtain ⟨hc, hp⟩ := chkP_ok h0
  have hw := WV_of (chkW_ok hc).1
  simp only [go_sem, Nat.reduceEqDiff, Nat.reduceAdd, Nat.reduceLT, Nat.reduceLeDiff, reduceIte, WCells, WEta, DCells, DEta, cellsIs, solidIs, cellsFs, solidFs, cellsDs, solidDs, Bool.and_self, Is_len, Fs_len, Ds_len, true_and, snW, hotW, snD, hotD, snIs, hotIs, WB45, WVH_eq (check_ok w p hl), h0, show ((0 : Int) != 0) = false from rfl, WB46, WVH_eq (broken_ok w hw (chkW_DV hc) p hp), if_true, Ns_sn]
end Go.Ab.T
end

section
namespace Go.Ab.T
set_option maxRecDepth 8000
set_option maxHeartbeats 4000000
def sumI : Nat → Nat → (Nat → Int) → Int
  | 0, _, _ => 0
  | n + 1, a, f => f a + sumI n (a + 1) f
theorem sumI_le {f : Nat → Int} {c : Int} (h : ∀ i, 0 ≤ f i ∧ f i ≤ c) : ∀ n a, 0 ≤ sumI n a f ∧ sumI n a f ≤ n * c
  | 0, _ => by simp [sumI]
  | n + 1, a => by
    have h1 := h a
    have h2 := sumI_le h n (a + 1)
    rw [sumI, show ((n + 1 : Nat) : Int) * c = n * c + c by rw [Int.natCast_add, Int.add_mul]; simp]; omega
/-- What a film takes in a slot of a screen and an hour. -/
def seeV (w : Wk) (f : Int) (s h : Nat) : Int := if (f == -1) = true then 0 else match w.films[f.toNat]? with
  | some m => m.price * min (m.crowd.getD h 0) (w.rooms.getD s 0)
  | none => 0
theorem getD_in {l : List Int} {c : Int} (hc : 0 ≤ c) (h : ∀ x ∈ l, 0 ≤ x ∧ x ≤ c) (i : Nat) : 0 ≤ l.getD i 0 ∧ l.getD i 0 ≤ c := by
  rw [List.getD_eq_getElem?_getD]
  cases hi : l[i]? with
  | none => exact ⟨Int.le_refl 0, hc⟩
  | some x => exact h x (List.mem_of_getElem? hi)
theorem seeV_le {w : Wk} (hw : WV w) (f : Int) (s h : Nat) : 0 ≤ seeV w f s h ∧ seeV w f s h ≤ 100000 := by
  unfold seeV
  split
  · omega
  · split
    · rename_i m hm
      have hmv := hw.films m (List.mem_of_getElem? hm)
      unfold mvOK at hmv
      simp only [Bool.and_eq_true, List.all_eq_true, inR_iff, beq_iff_eq] at hmv
      have h1 := getD_in (c := 999) (by omega) hmv.2.2 h
      have h2 := getD_in (c := 500) (by omega) (fun x hx => ⟨by have := hw.rooms x hx; omega, (hw.rooms x hx).2⟩) s
      have h3 : 0 ≤ min (m.crowd.getD h 0) (w.rooms.getD s 0) ∧ min (m.crowd.getD h 0) (w.rooms.getD s 0) ≤ 999 := by omega
      generalize min (m.crowd.getD h 0) (w.rooms.getD s 0) = x at h3
      refine ⟨Int.mul_nonneg hmv.1.1 h3.1, ?_⟩
      have h4 : m.price * x ≤ 100 * x := Int.mul_le_mul_of_nonneg_right hmv.1.2 h3.1
      omega
    · omega
def takeR (w : Wk) (p : List Int) : Int := sumI w.days.toNat 0 fun day => sumI w.rooms.length 0 fun s => sumI w.hours.toNat 0 fun h => seeV w (p.getD (slN w day s h) 0) s h
theorem takingsR_ok (w : Wk) (hw : WV w) (p : List Int) (hp : progOK w p = true) : RV ft 48 [encW w, encIs p] (I64 (takeR w p)) := by
  refine RV_of ft48 rfl ?_
  simp only [c48, r48]
  have d1 := hw.d1
  have b1 := hw.d2
  have b2 := hw.h2
  have b3 := hw.r2
  have b4 := hw.h1
  have hpl := prog_slots hp
  have hin : ∀ i f, p[i]? = some f → -1 ≤ f ∧ f ≤ (w.films.length : Int) - 1 := fun i f hi => by
    have h1 := hp
    unfold progOK at h1
    simp only [Bool.and_eq_true, List.all_eq_true] at h1
    exact inR_iff.1 (h1.1 f (List.mem_of_getElem? hi))
  have u1 := fun day s => sumI_le (fun h => seeV_le hw (p.getD (slN w day s h) 0) s h)
  have u2 := fun day => sumI_le (c := 4 * 100000) (fun s => ⟨(u1 day s w.hours.toNat 0).1, by have := (u1 day s w.hours.toNat 0).2; omega⟩ : ∀ s, _)
  have u3 := sumI_le (c := 4 * (4 * 100000)) (fun day => ⟨(u2 day w.rooms.length 0).1, by have := (u2 day w.rooms.length 0).2; omega⟩ : ∀ day, _)
  have hT := u3 w.days.toNat 0
  have hT2 : takeR w p ≤ 100000000 := by
    show (sumI w.days.toNat 0 fun day => sumI w.rooms.length 0 fun s => sumI w.hours.toNat 0 fun h => seeV w (p.getD (slN w day s h) 0) s h) ≤ _
    omega
  generalize hTT : takeR w p = T at hT2
  simp only [go_sem, Nat.reduceEqDiff, Nat.reduceAdd, Nat.reduceLT, Nat.reduceLeDiff, reduceIte, WCells, WEta, FCells, FEta, DCells, DEta, cellsIs, solidIs, cellsFs, solidFs, cellsDs, solidDs, Bool.and_self, Is_len, Fs_len, Ds_len, true_and, snW, hotW, snD, hotD, snIs, hotIs]
  refine WL_inv (α := Nat × Nat × Int) (fun q e mm => e 1 = encIs p ∧ e 2 = .ptr 0 0 0 ∧ e 5 = I64 q.2.2 ∧ e 6 = I64 q.1 ∧ q.1 + q.2.1 = w.days.toNat ∧ q.2.2 + (sumI q.2.1 q.1 fun day => sumI w.rooms.length 0 fun s => sumI w.hours.toNat 0 fun h => seeV w (p.getD (slN w day s h) 0) s h) = T ∧ 0 ≤ q.2.2 ∧ mm = ⟨[.live [encW w] 5], []⟩) (fun q => q.2.1) (0, w.days.toNat, 0) ?_ ?_
  · simp only [go_sem, Nat.reduceEqDiff, Nat.reduceAdd, Nat.reduceLT, Nat.reduceLeDiff, reduceIte]
    exact ⟨trivial, trivial, trivial, rfl, Nat.zero_add _, by rw [← hTT]; exact Int.zero_add _, Int.le_refl 0, trivial⟩
  rintro ⟨day, n, acc⟩ e m ⟨g1, g2, g5, g6, hs, hq, ha, rfl⟩
  dsimp only at g5 g6 hs hq ha
  cases n with
  | zero =>
    have hd : decide ((day : Int) < w.days) = false := decide_eq_false (by omega)
    simp only [go_sem, Nat.reduceEqDiff, Nat.reduceAdd, Nat.reduceLT, Nat.reduceLeDiff, reduceIte, g1, g2, g5, g6, WCells, WEta, FCells, FEta, DCells, DEta, cellsIs, solidIs, cellsFs, solidFs, cellsDs, solidDs, Bool.and_self, Is_len, Fs_len, Ds_len, true_and, snW, hotW, snD, hotD, snIs, hotIs, hd, show acc = T by rw [← hq]; simp [sumI]]
  | succ n =>
    have hd : decide ((day : Int) < w.days) = true := decide_eq_true (by omega)
    simp only [go_sem, Nat.reduceEqDiff, Nat.reduceAdd, Nat.reduceLT, Nat.reduceLeDiff, reduceIte, g1, g2, g5, g6, WCells, WEta, FCells, FEta, DCells, DEta, cellsIs, solidIs, cellsFs, solidFs, cellsDs, solidDs, Bool.and_self, Is_len, Fs_len, Ds_len, true_and, snW, hotW, snD, hotD, snIs, hotIs, hd]
    rw [sumI] at hq
    have hR0 := (u3 n (day + 1)).1
    generalize hR : (sumI n (day + 1) fun day => sumI w.rooms.length 0 fun s => sumI w.hours.toNat 0 fun h => seeV w (p.getD (slN w day s h) 0) s h) = R at hq hR0
    refine WL_inv (α := Nat × Nat × Int) (fun q e mm => e 1 = encIs p ∧ e 2 = .ptr 0 0 0 ∧ e 5 = I64 q.2.2 ∧ e 6 = I64 day ∧ e 7 = I64 q.1 ∧ q.1 + q.2.1 = w.rooms.length ∧ q.2.2 + (sumI q.2.1 q.1 fun s => sumI w.hours.toNat 0 fun h => seeV w (p.getD (slN w day s h) 0) s h) + R = T ∧ 0 ≤ q.2.2 ∧ mm = ⟨[.live [encW w] 5], []⟩) (fun q => q.2.1) (0, w.rooms.length, acc) ?_ ?_
    · simp only [go_sem, Nat.reduceEqDiff, Nat.reduceAdd, Nat.reduceLT, Nat.reduceLeDiff, reduceIte, g1, g2, g5, g6]
      exact ⟨trivial, trivial, trivial, trivial, rfl, Nat.zero_add _, by omega, ha, trivial⟩
    rintro ⟨s, k, acc⟩ e m ⟨g1, g2, g5, g6, g7, hs2, hq, ha, rfl⟩
    dsimp only at g5 g7 hs2 hq ha
    cases k with
    | zero =>
      have hd : decide ((s : Int) < (w.rooms.length : Int)) = false := decide_eq_false (by omega)
      simp only [go_sem, Nat.reduceEqDiff, Nat.reduceAdd, Nat.reduceLT, Nat.reduceLeDiff, reduceIte, g1, g2, g5, g6, g7, WCells, WEta, FCells, FEta, DCells, DEta, cellsIs, solidIs, cellsFs, solidFs, cellsDs, solidDs, Bool.and_self, Is_len, Fs_len, Ds_len, true_and, snW, hotW, snD, hotD, snIs, hotIs, hd, wrap_n1 day (by omega)]
      refine Nx_of (day + 1, n, acc) (by simp) ?_
      simp only [go_sem, Nat.reduceEqDiff, Nat.reduceAdd, Nat.reduceLT, Nat.reduceLeDiff, reduceIte, g1, g2, g5]
      exact ⟨trivial, trivial, trivial, trivial, by omega, by rw [hR]; simp only [sumI] at hq; omega, ha, trivial⟩
    | succ k =>
      have hd : decide ((s : Int) < (w.rooms.length : Int)) = true := decide_eq_true (by omega)
      simp only [go_sem, Nat.reduceEqDiff, Nat.reduceAdd, Nat.reduceLT, Nat.reduceLeDiff, reduceIte, g1, g2, g5, g6, g7, WCells, WEta, FCells, FEta, DCells, DEta, cellsIs, solidIs, cellsFs, solidFs, cellsDs, solidDs, Bool.and_self, Is_len, Fs_len, Ds_len, true_and, snW, hotW, snD, hotD, snIs, hotIs, hd]
      rw [sumI] at hq
      have hR20 := (u2 day k (s + 1)).1
      generalize hR2 : (sumI k (s + 1) fun s => sumI w.hours.toNat 0 fun h => seeV w (p.getD (slN w day s h) 0) s h) = R2 at hq hR20
      refine WL_inv (α := Nat × Nat × Int) (fun q e mm => e 1 = encIs p ∧ e 2 = .ptr 0 0 0 ∧ e 5 = I64 q.2.2 ∧ e 6 = I64 day ∧ e 7 = I64 s ∧ e 8 = I64 q.1 ∧ q.1 + q.2.1 = w.hours.toNat ∧ q.2.2 + (sumI q.2.1 q.1 fun h => seeV w (p.getD (slN w day s h) 0) s h) + R2 + R = T ∧ 0 ≤ q.2.2 ∧ mm = ⟨[.live [encW w] 5], []⟩) (fun q => q.2.1) (0, w.hours.toNat, acc) ?_ ?_
      · simp only [go_sem, Nat.reduceEqDiff, Nat.reduceAdd, Nat.reduceLT, Nat.reduceLeDiff, reduceIte, g1, g2, g5, g6, g7]
        exact ⟨trivial, trivial, trivial, trivial, trivial, rfl, Nat.zero_add _, by omega, ha, trivial⟩
      rintro ⟨h, j, acc⟩ e m ⟨g1, g2, g5, g6, g7, g8, hs3, hq, ha, rfl⟩
      dsimp only at g5 g8 hs3 hq ha
      cases j with
      | zero =>
        have hd : decide ((h : Int) < w.hours) = false := decide_eq_false (by omega)
        simp only [go_sem, Nat.reduceEqDiff, Nat.reduceAdd, Nat.reduceLT, Nat.reduceLeDiff, reduceIte, g1, g2, g5, g6, g7, g8, WCells, WEta, FCells, FEta, DCells, DEta, cellsIs, solidIs, cellsFs, solidFs, cellsDs, solidDs, Bool.and_self, Is_len, Fs_len, Ds_len, true_and, snW, hotW, snD, hotD, snIs, hotIs, hd, wrap_n1 s (by omega)]
        refine Nx_of (s + 1, k, acc) (by simp) ?_
        simp only [go_sem, Nat.reduceEqDiff, Nat.reduceAdd, Nat.reduceLT, Nat.reduceLeDiff, reduceIte, g1, g2, g5, g6]
        exact ⟨trivial, trivial, trivial, trivial, trivial, by omega, by rw [hR2]; simp only [sumI] at hq; omega, ha, trivial⟩
      | succ j =>
        have hd : decide ((h : Int) < w.hours) = true := decide_eq_true (by omega)
        rw [sumI] at hq
        have hR30 := (u1 day s j (h + 1)).1
        have hlt : s < w.rooms.length := by omega
        have j2 : w.rooms[s]? = some (w.rooms.getD s 0) := by rw [List.getD_eq_getElem?_getD, List.getElem?_eq_getElem hlt]; rfl
        have hsl := Slot_ok w day s h ⟨by omega, by omega⟩ ⟨by omega, by omega⟩ ⟨by omega, by omega⟩ b3 (by omega) b2
        rw [slN_cast hw] at hsl
        have hsl2 := slN_lts hw (day := day) (s := s) (h := h) (by omega) hlt (by omega)
        have j3 : p[slN w day s h]? = some (p.getD (slN w day s h) 0) := by rw [List.getD_eq_getElem?_getD, List.getElem?_eq_getElem (by omega)]; rfl
        have hv := seeV_le hw (p.getD (slN w day s h) 0) s h
        have hfr := hin _ _ j3
        generalize p.getD (slN w day s h) 0 = f at *
        cases h5 : f == -1
        case true =>
          have hv0 : seeV w f s h = 0 := by unfold seeV; rw [h5]; rfl
          have h5' : (f != -1) = false := by rw [bne, h5]; rfl
          simp only [go_sem, Nat.reduceEqDiff, Nat.reduceAdd, Nat.reduceLT, Nat.reduceLeDiff, reduceIte, g1, g2, g5, g6, g7, g8, hd, WCells, WEta, FCells, FEta, DCells, DEta, cellsIs, solidIs, cellsFs, solidFs, cellsDs, solidDs, Bool.and_self, Is_len, Fs_len, Ds_len, true_and, snW, hotW, snD, hotD, snIs, hotIs, WB33, WVH_eq hsl, Is_idx _ j3, h5', wrap_n1 h (by omega)]
          refine Nx_of (h + 1, j, acc) (by simp) ?_
          simp only [go_sem, Nat.reduceEqDiff, Nat.reduceAdd, Nat.reduceLT, Nat.reduceLeDiff, reduceIte, g1, g2, g5, g6, g7]
          exact ⟨trivial, trivial, trivial, trivial, trivial, trivial, by omega, by omega, ha, trivial⟩
        have h5' : (f != -1) = true := by rw [bne, h5]; rfl
        have hf0 : 0 ≤ f := by have : f ≠ -1 := fun h => by rw [h] at h5; simp at h5
                               omega
        have hfi : f.toNat < w.films.length := by omega
        obtain ⟨mv, hm⟩ : ∃ mv, w.films[f.toNat]? = some mv := ⟨_, List.getElem?_eq_getElem hfi⟩
        have hfn : f = ((f.toNat : Nat) : Int) := (Int.toNat_of_nonneg hf0).symm
        have hFx : ∀ m : Mem, idxAt m (encFs w.films) (I64 f) 2 = some (.pv (encF mv) 0) := fun m => by rw [hfn]; exact Fs_idx m hm
        have hmv := hw.films mv (List.mem_of_getElem? hm)
        unfold mvOK at hmv
        simp only [Bool.and_eq_true, List.all_eq_true, inR_iff, beq_iff_eq] at hmv
        have hch : h < mv.crowd.length := by omega
        have j4 : mv.crowd[h]? = some (mv.crowd.getD h 0) := by rw [List.getD_eq_getElem?_getD, List.getElem?_eq_getElem hch]; rfl
        have hse : seeV w f s h = mv.price * min (mv.crowd.getD h 0) (w.rooms.getD s 0) := by unfold seeV; rw [h5, if_neg (by decide), hm]
        have x1 : IntKind.i64.wrap (mv.price * min (mv.crowd.getD h 0) (w.rooms.getD s 0)) = seeV w f s h := by rw [← hse]; exact wrap_i64 _ (by omega) (by omega)
        have x2 : IntKind.i64.wrap (acc + seeV w f s h) = acc + seeV w f s h := wrap_i64 _ (by omega) (by omega)
        simp only [go_sem, Nat.reduceEqDiff, Nat.reduceAdd, Nat.reduceLT, Nat.reduceLeDiff, reduceIte, g1, g2, g5, g6, g7, g8, hd, WCells, WEta, FCells, FEta, DCells, DEta, cellsIs, solidIs, cellsFs, solidFs, cellsDs, solidDs, Bool.and_self, Is_len, Fs_len, Ds_len, true_and, snW, hotW, snD, hotD, snIs, hotIs, WB33, WVH_eq hsl, Is_idx _ j3, h5', hFx, Nat.zero_add, Is_idx _ j4, Is_idx _ j2, mnx_min, x1, x2, wrap_n1 h (by omega)]
        refine Nx_of (h + 1, j, acc + seeV w f s h) (by simp) ?_
        simp only [go_sem, Nat.reduceEqDiff, Nat.reduceAdd, Nat.reduceLT, Nat.reduceLeDiff, reduceIte, g1, g2, g5, g6, g7]
        exact ⟨trivial, trivial, trivial, trivial, trivial, trivial, by omega, by omega, by omega, trivial⟩
theorem TakingsR_ok (w : Wk) (p : List Int) (hl : p.length < 1073741824) : RV ft 19 [encW w, encIs p] (.tup [I64 (if chkP w p = 0 then takeR w p else 0), I64 (chkP w p)]) := by
  refine RV_of ft19 rfl ?_
  simp only [c19, r19]
  by_cases h0 : chkP w p = 0
  case neg =>
    have n0 : (chkP w p != 0) = true := by rw [bne, beq_eq_false_iff_ne.2 h0]; rfl
    simp only [go_sem, Nat.reduceEqDiff, Nat.reduceAdd, Nat.reduceLT, Nat.reduceLeDiff, reduceIte, WCells, WEta, FCells, FEta, DCells, DEta, cellsIs, solidIs, cellsFs, solidFs, cellsDs, solidDs, Bool.and_self, Is_len, Fs_len, Ds_len, true_and, snW, hotW, snD, hotD, snIs, hotIs, WB45, WVH_eq (check_ok w p hl), n0, if_neg h0]
  obtain ⟨hc, hp⟩ := chkP_ok h0
  have hw := WV_of (chkW_ok hc).1
  simp only [go_sem, Nat.reduceEqDiff, Nat.reduceAdd, Nat.reduceLT, Nat.reduceLeDiff, reduceIte, WCells, WEta, FCells, FEta, DCells, DEta, cellsIs, solidIs, cellsFs, solidFs, cellsDs, solidDs, Bool.and_self, Is_len, Fs_len, Ds_len, true_and, snW, hotW, snD, hotD, snIs, hotIs, WB45, WVH_eq (check_ok w p hl), h0, show ((0 : Int) != 0) = false from rfl, WB48, WVH_eq (takingsR_ok w hw p hp), if_true]
/-! ### The law's small functions -/
def sameL (a b : List Int) : Bool := a == b
theorem same_step {a b : List Int} {k : Nat} {x y : Int} {r s : List Int} (ha : a.drop k = x :: r) (hb : b.drop k = y :: s) : (a.drop k == b.drop k) = (x == y && r == s) := by rw [ha, hb]; rfl
theorem sameInts_ok (a b : List Int) (hl : a.length < 1073741824) : RV ft 20 [encIs a, encIs b] (.bool (a == b)) := by
  refine RV_of ft20 rfl ?_
  simp only [c20, r20]
  cases h1 : (a.length : Int) != b.length
  case true =>
    have : (a == b) = false := by
      rw [beq_eq_false_iff_ne]; intro h; subst h; simp at h1
    simp only [go_sem, Nat.reduceEqDiff, Nat.reduceAdd, Nat.reduceLT, Nat.reduceLeDiff, reduceIte, Is_len, h1, this]
  have hle : a.length = b.length := by simp [bne] at h1; omega
  simp only [go_sem, Nat.reduceEqDiff, Nat.reduceAdd, Nat.reduceLT, Nat.reduceLeDiff, reduceIte, Is_len, h1]
  refine WL_inv (α := Nat × List Int × List Int) (fun q e mm => e 0 = encIs a ∧ e 1 = encIs b ∧ e 5 = I64 q.1 ∧ a.drop q.1 = q.2.1 ∧ b.drop q.1 = q.2.2 ∧ (q.2.1 == q.2.2) = (a == b)) (fun q => q.2.1.length) (0, a, b) ?_ ?_
  · simp only [go_sem, Nat.reduceEqDiff, Nat.reduceAdd, Nat.reduceLT, Nat.reduceLeDiff, reduceIte]
    ((repeat' apply And.intro) <;> first | trivial | rfl | omega | assumption)
  rintro ⟨k, r, s⟩ e m ⟨g0, g1, g5, ha, hb, hq⟩
  dsimp only at g5 ha hb hq
  cases r with
  | nil =>
    have hge := drop_nil ha
    have hs : s = [] := by rw [← hb]; exact List.drop_eq_nil_of_le (by omega)
    subst hs
    simp only [go_sem, Nat.reduceEqDiff, Nat.reduceAdd, Nat.reduceLT, Nat.reduceLeDiff, reduceIte, g0, g1, g5, Is_len, dec_ge hge]
    rw [← hq]; rfl
  | cons x r =>
    obtain ⟨hk, hd2, hlt⟩ := drop_cons ha
    cases s with
    | nil => have := drop_nil hb; omega
    | cons y s =>
      obtain ⟨hk2, hd3, _⟩ := drop_cons hb
      have hb2 : (x :: r == y :: s) = (x == y && r == s) := rfl
      cases h3 : x == y
      · have h3' : (x != y) = true := by rw [bne, h3]; rfl
        simp only [go_sem, Nat.reduceEqDiff, Nat.reduceAdd, Nat.reduceLT, Nat.reduceLeDiff, reduceIte, g0, g1, g5, Is_len, dec_lt hlt, Is_idx _ hk, Is_idx _ hk2, h3']
        rw [← hq, hb2, h3]; rfl
      · have h3' : (x != y) = false := by rw [bne, h3]; rfl
        simp only [go_sem, Nat.reduceEqDiff, Nat.reduceAdd, Nat.reduceLT, Nat.reduceLeDiff, reduceIte, g0, g1, g5, Is_len, dec_lt hlt, Is_idx _ hk, Is_idx _ hk2, h3', wrap_n1 k (by omega)]
        refine Nx_of (k + 1, r, s) (by simp) ?_
        simp only [go_sem, Nat.reduceEqDiff, Nat.reduceAdd, Nat.reduceLT, Nat.reduceLeDiff, reduceIte, g0, g1]
        exact ⟨trivial, trivial, trivial, hd2, hd3, by rw [← hq, hb2, h3]; rfl⟩
def hugeB (w : Wk) : Bool := w.films.any (fun m => decide (40 < m.crowd.length)) || (decide (40 < w.rooms.length) || (decide (40 < w.films.length) || decide (40 < w.deals.length)))
theorem dec40 (n : Nat) : decide ((40 : Int) < (n : Int)) = decide (40 < n) := decide_eq_decide.2 (by omega)
theorem huge_ok (w : Wk) (hl : w.films.length < 9223372036854775808) : RV ft 11 [encW w] (.bool (hugeB w)) := by
  refine RV_of ft11 rfl ?_
  simp only [c11, r11]
  generalize hT : hugeB w = T
  have hT2 := hT
  unfold hugeB at hT
  simp only [go_sem, Nat.reduceEqDiff, Nat.reduceAdd, Nat.reduceLT, Nat.reduceLeDiff, reduceIte, WCells, WEta, FCells, FEta, DCells, DEta, cellsIs, solidIs, cellsFs, solidFs, cellsDs, solidDs, Bool.and_self, Is_len, Fs_len, Ds_len, true_and, snW, hotW, snD, hotD, snIs, hotIs]
  refine WL_inv (α := Nat × List Mv) (fun q e mm => e 1 = .ptr 0 0 0 ∧ e 3 = I64 q.1 ∧ w.films.drop q.1 = q.2 ∧ (q.2.any fun m => decide (40 < m.crowd.length)) = (w.films.any fun m => decide (40 < m.crowd.length)) ∧ mm = ⟨[.live [encW w] 5], []⟩) (fun q => q.2.length) (0, w.films) ?_ ?_
  · simp only [go_sem, Nat.reduceEqDiff, Nat.reduceAdd, Nat.reduceLT, Nat.reduceLeDiff, reduceIte]
    ((repeat' apply And.intro) <;> first | trivial | rfl | omega | assumption)
  rintro ⟨k, r⟩ e m ⟨g1, g3, hdr, hq, rfl⟩
  dsimp only at g3 hdr hq
  cases r with
  | nil =>
    have hge := drop_nil hdr
    rw [← hq] at hT
    simp only [List.any_nil, Bool.false_or] at hT
    cases h1 : decide (40 < w.rooms.length)
    · cases h2 : decide (40 < w.films.length)
      · rw [h1, h2, Bool.false_or, Bool.false_or] at hT
        simp only [go_sem, Nat.reduceEqDiff, Nat.reduceAdd, Nat.reduceLT, Nat.reduceLeDiff, reduceIte, g1, g3, WCells, WEta, FCells, FEta, DCells, DEta, cellsIs, solidIs, cellsFs, solidFs, cellsDs, solidDs, Bool.and_self, Is_len, Fs_len, Ds_len, true_and, snW, hotW, snD, hotD, snIs, hotIs, dec_ge hge, dec40, h1, h2, hT]
      · rw [h1, h2] at hT
        simp only [go_sem, Nat.reduceEqDiff, Nat.reduceAdd, Nat.reduceLT, Nat.reduceLeDiff, reduceIte, g1, g3, WCells, WEta, FCells, FEta, DCells, DEta, cellsIs, solidIs, cellsFs, solidFs, cellsDs, solidDs, Bool.and_self, Is_len, Fs_len, Ds_len, true_and, snW, hotW, snD, hotD, snIs, hotIs, dec_ge hge, dec40, h1, h2, ← hT]
    · rw [h1] at hT
      simp only [go_sem, Nat.reduceEqDiff, Nat.reduceAdd, Nat.reduceLT, Nat.reduceLeDiff, reduceIte, g1, g3, WCells, WEta, FCells, FEta, DCells, DEta, cellsIs, solidIs, cellsFs, solidFs, cellsDs, solidDs, Bool.and_self, Is_len, Fs_len, Ds_len, true_and, snW, hotW, snD, hotD, snIs, hotIs, dec_ge hge, dec40, h1, ← hT]
  | cons x r =>
    obtain ⟨hk, hd2, hlt⟩ := drop_cons hdr
    cases h1 : decide (40 < x.crowd.length)
    · simp only [go_sem, Nat.reduceEqDiff, Nat.reduceAdd, Nat.reduceLT, Nat.reduceLeDiff, reduceIte, g1, g3, WCells, WEta, FCells, FEta, DCells, DEta, cellsIs, solidIs, cellsFs, solidFs, cellsDs, solidDs, Bool.and_self, Is_len, Fs_len, Ds_len, true_and, snW, hotW, snD, hotD, snIs, hotIs, dec_lt hlt, Fs_idx _ hk, Nat.zero_add, dec40, h1, wrap_n1b k (by omega)]
      refine Nx_of (k + 1, r) (by simp) ?_
      simp only [go_sem, Nat.reduceEqDiff, Nat.reduceAdd, Nat.reduceLT, Nat.reduceLeDiff, reduceIte, g1]
      exact ⟨trivial, trivial, hd2, by rw [← hq, List.any_cons, h1]; rfl, trivial⟩
    · rw [← hq, List.any_cons, h1] at hT
      simp only [go_sem, Nat.reduceEqDiff, Nat.reduceAdd, Nat.reduceLT, Nat.reduceLeDiff, reduceIte, g1, g3, WCells, WEta, FCells, FEta, DCells, DEta, cellsIs, solidIs, cellsFs, solidFs, cellsDs, solidDs, Bool.and_self, Is_len, Fs_len, Ds_len, true_and, snW, hotW, snD, hotD, snIs, hotIs, dec_lt hlt, Fs_idx _ hk, Nat.zero_add, dec40, h1, ← hT]
end Go.Ab.T
end

section
namespace Go.Ab.T
set_option maxRecDepth 8000
set_option maxHeartbeats 4000000
/-- A slice in memory of its own, behind n0 blocks. -/
def OV (n0 : Nat) (es : List AV) (sz : Nat) (v : AV) (bl : List Blk) : Prop := (es = [] ∧ v = .sl [] .tight) ∨ (es ≠ [] ∧ ∃ id, n0 ≤ id ∧ v = .ref id 0 es.length ∧ bl[id]? = some (.live es sz))
theorem OV.cells {n0 : Nat} {es : List AV} {sz : Nat} {v : AV} {bl : List Blk} (h : OV n0 es sz v bl) : v.cells = [v] ∧ v.solid = true ∧ v.isAgg = false := by
  rcases h with ⟨_, rfl⟩ | ⟨_, _, _, rfl, _⟩ <;> exact ⟨rfl, rfl, rfl⟩
theorem OV.keep {n0 : Nat} {es : List AV} {sz : Nat} {v : AV} {bl bl' : List Blk} (h : OV n0 es sz v bl) (hk : ∀ id, n0 ≤ id → bl[id]? = some (.live es sz) → bl'[id]? = some (.live es sz)) : OV n0 es sz v bl' := by
  rcases h with h | ⟨h1, id, h2, h3, h4⟩
  · exact .inl h
  · exact .inr ⟨h1, id, h2, h3, hk id h2 h4⟩
theorem OV.app {n0 : Nat} {es : List AV} {sz : Nat} {v : AV} {bl : List Blk} (h : OV n0 es sz v bl) (ext : List Blk) : OV n0 es sz v (bl ++ ext) :=
  h.keep fun id _ hb => by rw [List.getElem?_append_left (List.getElem?_eq_some_iff.1 hb).1]; exact hb
theorem OV.set {n0 : Nat} {es : List AV} {sz : Nat} {v : AV} {bl : List Blk} (h : OV n0 es sz v bl) {id : Nat} {b : Blk} {es2 : List AV} {sz2 : Nat} (hid : id < n0 ∨ (bl[id]? = some (.live es2 sz2) ∧ sz2 ≠ sz)) : OV n0 es sz v (bl.set id b) :=
  h.keep fun id' hn hb => by
    rw [List.getElem?_set_ne]
    · exact hb
    · rintro rfl
      rcases hid with hid | ⟨h1, h2⟩
      · omega
      · rw [h1] at hb; cases hb; exact h2 rfl
theorem OV.snap {n0 : Nat} {es : List AV} {sz : Nat} {v : AV} {bl : List Blk} (h : OV n0 es sz v bl) (tk : List (Nat × Nat)) (q : Nat) : Ab.snap ⟨bl, tk⟩ (q + 1) v = .sl (es.map (Ab.snap ⟨bl, tk⟩ q)) .unk := by
  rcases h with ⟨rfl, rfl⟩ | ⟨_, id, _, rfl, hb⟩
  · rfl
  · rw [snap_ref, elems_ref]
    simp only [hb, elBlk_live, Nat.zero_add, Nat.le_refl, if_true, List.drop_zero, List.take_length]
    rfl
theorem app0_ok {es : List AV} {q : Tk} {bl : List Blk} {tk : List (Nat × Nat)} {n0 sz bytes : Nat} (hn : n0 ≤ bl.length) (hs : ∀ e ∈ es, e.cells.length = sz) (hl : es.length * (bytes + 1) ≤ limit) :
    ∃ v ext, append0 ⟨bl, tk⟩ (.sl [] .tight) (.sl es q) sz bytes = some (v, ⟨bl ++ ext, tk⟩) ∧ OV n0 es sz v (bl ++ ext) := by
  cases es with
  | nil =>
    refine ⟨.sl [] .tight, [], ?_, .inl ⟨rfl, rfl⟩⟩
    simp [append0, Mem.elems]
  | cons e r =>
    have h1 : hdSz (e :: r) sz = true := by simp [hdSz, hs e (by simp)]
    refine ⟨.ref bl.length 0 (e :: r).length, [.live (e :: r) sz], ?_, .inr ⟨by simp, bl.length, hn, rfl, by simp⟩⟩
    simp only [append0, Mem.elems]
    rw [if_pos ⟨⟨hl, h1⟩, by simp⟩]; rfl
def FilmAt (n0 : Nat) (bl : List Blk) (m : Mv) (a : AV) : Prop := ∃ c, a = .agg [I64 m.price, c] ∧ OV n0 (m.crowd.map I64) 1 c bl
def FA {α β : Type} (R : α → β → Prop) : List α → List β → Prop
  | [], [] => True
  | x :: xs, y :: ys => R x y ∧ FA R xs ys
  | _, _ => False
theorem FA.snoc {α β : Type} {R : α → β → Prop} {x : α} {y : β} (hx : R x y) : ∀ {xs : List α} {ys : List β}, FA R xs ys → FA R (xs ++ [x]) (ys ++ [y])
  | [], [], _ => ⟨hx, trivial⟩
  | [], _ :: _, h => h.elim
  | _ :: _, [], h => h.elim
  | _ :: _, _ :: _, h => ⟨h.1, FA.snoc hx h.2⟩
theorem FA.len {α β : Type} {R : α → β → Prop} : ∀ {xs : List α} {ys : List β}, FA R xs ys → ys.length = xs.length
  | [], [], _ => rfl
  | [], _ :: _, h => h.elim
  | _ :: _, [], h => h.elim
  | _ :: _, _ :: _, h => by simp [FA.len h.2]
theorem FA.imp {α β : Type} {R S : α → β → Prop} (hRS : ∀ x y, R x y → S x y) : ∀ {xs : List α} {ys : List β}, FA R xs ys → FA S xs ys
  | [], [], _ => trivial
  | [], _ :: _, h => h.elim
  | _ :: _, [], h => h.elim
  | _ :: _, _ :: _, h => ⟨hRS _ _ h.1, FA.imp hRS h.2⟩
theorem FA.map {α β γ : Type} {R : α → β → Prop} {f : β → γ} {g : α → γ} (hfg : ∀ x y, R x y → f y = g x) : ∀ {xs : List α} {ys : List β}, FA R xs ys → ys.map f = xs.map g
  | [], [], _ => rfl
  | [], _ :: _, h => h.elim
  | _ :: _, [], h => h.elim
  | x :: xs, y :: ys, h => by rw [List.map_cons, List.map_cons, hfg x y h.1, FA.map hfg h.2]
/-- A week's films in memory of its own. -/
def FilmsM (n0 : Nat) (l : List Mv) (v : AV) (bl : List Blk) : Prop := ∃ fs, OV n0 fs 2 v bl ∧ FA (FilmAt n0 bl) l fs
/-- A week in memory of its own. -/
def WeekM (n0 : Nat) (w : Wk) (v : AV) (bl : List Blk) : Prop := ∃ v1 v2 v3, v = .agg [I64 w.days, v1, I64 w.hours, v2, v3] ∧ OV n0 (w.rooms.map I64) 1 v1 bl ∧ FilmsM n0 w.films v2 bl ∧ OV n0 (w.deals.map encD) 8 v3 bl
theorem FilmAt.snap {n0 : Nat} {bl : List Blk} {m : Mv} {a : AV} (h : FilmAt n0 bl m a) (tk : List (Nat × Nat)) (q : Nat) : Ab.snap ⟨bl, tk⟩ (q + 3) a = encF m := by
  obtain ⟨c, rfl, hc⟩ := h
  rw [snap_agg]
  simp only [List.map_cons, List.map_nil]
  rw [hc.snap, List.map_map, show Ab.snap ⟨bl, tk⟩ (q + 1) ∘ I64 = I64 from funext fun _ => rfl]
  rfl
theorem WeekM.snap {n0 : Nat} {w : Wk} {v : AV} {bl : List Blk} (h : WeekM n0 w v bl) (tk : List (Nat × Nat)) (q : Nat) : Ab.snap ⟨bl, tk⟩ (q + 5) v = encW w := by
  obtain ⟨v1, v2, v3, rfl, h1, ⟨fs, h2, hfs⟩, h3⟩ := h
  rw [snap_agg]
  simp only [List.map_cons, List.map_nil]
  rw [h1.snap, h2.snap, h3.snap, List.map_map, List.map_map, show Ab.snap ⟨bl, tk⟩ (q + 3) ∘ I64 = I64 from funext fun _ => rfl, show Ab.snap ⟨bl, tk⟩ (q + 3) ∘ encD = encD from funext fun d => snD _ _ d, show fs.map (Ab.snap ⟨bl, tk⟩ (q + 3)) = w.films.map encF from FA.map (f := Ab.snap ⟨bl, tk⟩ (q + 3)) (g := encF) (fun x y hxy => FilmAt.snap hxy tk q) hfs]
  rfl
/-- A week that is small enough to be copied. -/
structure Small (w : Wk) : Prop where
  r : w.rooms.length ≤ 1000
  f : w.films.length ≤ 1000
  d : w.deals.length ≤ 1000
  c : ∀ m ∈ w.films, m.crowd.length ≤ 1000
theorem Small_of {w : Wk} (h : hugeB w = false) : Small w := by
  unfold hugeB at h
  simp only [Bool.or_eq_false_iff, decide_eq_false_iff_not, List.any_eq_false, decide_eq_true_eq] at h
  obtain ⟨h1, h2, h3, h4⟩ := h
  exact ⟨by omega, by omega, by omega, fun m hm => by have := h1 m hm; omega⟩
theorem WV.small {w : Wk} (h : WV w) : Small w := by
  have h1 := h.r2
  have h2 := h.f
  have h3 := h.d
  have h4 := h.h2
  refine ⟨by omega, by omega, by omega, fun m hm => ?_⟩
  have h5 := h.films m hm
  unfold mvOK at h5
  simp only [Bool.and_eq_true, beq_iff_eq] at h5
  have := h5.2.1
  omega
theorem set_at {α : Type} (a b : List α) (x y : α) {k : Nat} (h : a.length = k) : (a ++ x :: b).set k y = a ++ y :: b := by
  subst h; simp
theorem OVNil (n0 : Nat) (bl : List Blk) (sz : Nat) : OV n0 [] sz (.sl [] .tight) bl := .inl ⟨rfl, rfl⟩
def cpA (w : Wk) (z1 z2 z3 : AV) : Blk := .live [.agg [I64 w.days, z1, I64 w.hours, z2, z3]] 5
def cpZ : Blk := .live [.agg [.int .i64 0, .sl [] .tight, .int .i64 0, .sl [] .tight, .sl [] .tight]] 5
theorem Copy_run (w : Wk) (hs : Small w) (K : AV → Mem → Prop) (hK : ∀ v bl, WeekM 2 w v bl → K v ⟨bl, []⟩) : WR ft (.f 13) [encW w] .nil K := by
  rw [WR_f ft13 rfl]
  simp only [c13, r13]
  have s1 := hs.r
  have s2 := hs.f
  have s3 := hs.d
  obtain ⟨v1, x1, ha1, ho1⟩ := app0_ok (es := w.rooms.map I64) (q := .unk) (bl := [.live [.agg [.int .i64 0, .sl [] .tight, .int .i64 0, .sl [] .tight, .sl [] .tight]] 5, .live [encW w] 5]) (tk := []) (n0 := 2) (sz := 1) (bytes := 8) (Nat.le_refl 2) (fun e he => by obtain ⟨z, _, rfl⟩ := List.mem_map.1 he; rfl) (by rw [List.length_map]; simp only [limit]; omega)
  have ha1' : append0 ⟨[.live [.agg [.int .i64 0, .sl [] .tight, .int .i64 0, .sl [] .tight, .sl [] .tight]] 5, .live [encW w] 5], []⟩ (.sl [] .tight) (encIs w.rooms) 1 8 = some (v1, ⟨[.live [.agg [.int .i64 0, .sl [] .tight, .int .i64 0, .sl [] .tight, .sl [] .tight]] 5, .live [encW w] 5] ++ x1, []⟩) := ha1
  obtain ⟨c11, c12, c13⟩ := ho1.cells
  obtain ⟨v2, x2, ha2, ho2'⟩ := app0_ok (es := w.films.map encF) (q := .unk) (bl := cpZ :: cpA w v1 (encFs w.films) (encDs w.deals) :: x1) (tk := []) (n0 := 2) (sz := 2) (bytes := 32) (by simp) (fun e he => by obtain ⟨z, _, rfl⟩ := List.mem_map.1 he; rfl) (by rw [List.length_map]; simp only [limit]; omega)
  have ha2' : append0 ⟨.live [.agg [.int .i64 0, .sl [] .tight, .int .i64 0, .sl [] .tight, .sl [] .tight]] 5 :: .live [.agg [I64 w.days, v1, I64 w.hours, encFs w.films, encDs w.deals]] 5 :: x1, []⟩ (.sl [] .tight) (encFs w.films) 2 32 = some (v2, ⟨.live [.agg [.int .i64 0, .sl [] .tight, .int .i64 0, .sl [] .tight, .sl [] .tight]] 5 :: .live [.agg [I64 w.days, v1, I64 w.hours, encFs w.films, encDs w.deals]] 5 :: (x1 ++ x2), []⟩) := ha2
  obtain ⟨c21, c22, c23⟩ := ho2'.cells
  have hp2 : ∀ (a b : Blk) (r : List Blk) (n : Nat), (a :: b :: r)[n + 2]? = r[n]? := fun a b r n => rfl
  have toA : ∀ {es : List AV} {sz : Nat} {v : AV} {a b a2 b2 : Blk} {r : List Blk}, OV 2 es sz v (a :: b :: r) → OV 2 es sz v (a2 :: b2 :: r) := fun {es sz v a b a2 b2 r} h => h.keep fun id hid hb => by
    obtain ⟨j, rfl⟩ : ∃ j, id = j + 2 := ⟨id - 2, by omega⟩
    exact hb
  have ho1' : OV 2 (w.rooms.map I64) 1 v1 (cpZ :: cpA w v1 v2 (encDs w.deals) :: (x1 ++ x2)) := toA (show OV 2 _ 1 v1 (cpZ :: .live [encW w] 5 :: (x1 ++ x2)) from by have := ho1.app x2; rw [List.append_assoc] at this; exact this)
  have ho2 : OV 2 (w.films.map encF) 2 v2 (cpZ :: cpA w v1 v2 (encDs w.deals) :: (x1 ++ x2)) := toA (show OV 2 _ 2 v2 (cpZ :: cpA w v1 (encFs w.films) (encDs w.deals) :: (x1 ++ x2)) from ho2')

  have wc1 : writeCells (encW w) 1 [v1] = some (.agg [I64 w.days, v1, I64 w.hours, encFs w.films, encDs w.deals]) := rfl
  simp only [go_sem, Nat.reduceEqDiff, Nat.reduceAdd, Nat.reduceLT, Nat.reduceLeDiff, reduceIte, WCells, WEta, FCells, FEta, DCells, DEta, cellsIs, solidIs, cellsFs, solidFs, cellsDs, solidDs, Bool.and_self, Is_len, Fs_len, Ds_len, true_and, snW, hotW, snD, hotD, snIs, hotIs, ha1', c11, c12, c13, wc1, ha2', c21, c22, c23]
  generalize x1 ++ x2 = bl0 at ho1' ho2 ⊢
  refine WL_inv (α := Nat × List Mv) (fun q e mm => e 1 = .pv (encW w) 0 ∧ e 2 = .ptr 0 0 0 ∧ e 3 = .ptr 1 0 0 ∧ e 4 = I64 q.1 ∧ w.films.drop q.1 = q.2 ∧ q.1 ≤ w.films.length ∧ ∃ bl dn, mm = ⟨cpZ :: cpA w v1 v2 (encDs w.deals) :: bl, []⟩ ∧ OV 2 (w.rooms.map I64) 1 v1 (cpZ :: cpA w v1 v2 (encDs w.deals) :: bl) ∧ OV 2 (dn ++ q.2.map encF) 2 v2 (cpZ :: cpA w v1 v2 (encDs w.deals) :: bl) ∧ FA (FilmAt 2 (cpZ :: cpA w v1 v2 (encDs w.deals) :: bl)) (w.films.take q.1) dn) (fun q => q.2.length) (0, w.films) ?_ ?_
  · simp only [go_sem, Nat.reduceEqDiff, Nat.reduceAdd, Nat.reduceLT, Nat.reduceLeDiff, reduceIte]
    exact ⟨trivial, trivial, trivial, rfl, trivial, Nat.zero_le _, bl0, [], rfl, ho1', ho2, trivial⟩
  rintro ⟨k, r⟩ e m ⟨g1, g2, g3, g4, hdr, hkl, bl, dn, rfl, hr, hf, hfa⟩
  dsimp only at g4 hdr hkl hr hf hfa
  have hdn : dn.length = k := by have := hfa.len; simp at this; omega
  have hlen : lenAt ⟨cpZ :: cpA w v1 v2 (encDs w.deals) :: bl, []⟩ v2 = some (I64 w.films.length) := by
    have hl : (dn ++ r.map encF).length = w.films.length := by rw [← hdr]; simp [hdn]; omega
    rcases hf with ⟨h1, rfl⟩ | ⟨h1, id, h2, rfl, h3⟩
    · rw [h1] at hl; rw [lenAt_sl]; simp only [← hl]
    · rw [lenAt_ref, lsz_eq, h3, ← hl]; rfl
  cases r with
  | nil =>
    have hge := drop_nil hdr
    have hf' := hf
    simp only [List.map_nil, List.append_nil] at hf'
    have hke : k = w.films.length := by omega
    subst hke
    rw [List.take_length] at hfa
    obtain ⟨v3, x3, ha3, ho3⟩ := app0_ok (es := w.deals.map encD) (q := .unk) (bl := cpZ :: cpA w v1 v2 (encDs w.deals) :: bl) (tk := []) (n0 := 2) (sz := 8) (bytes := 64) (by simp) (fun e he => by obtain ⟨z, _, rfl⟩ := List.mem_map.1 he; rfl) (by rw [List.length_map]; simp only [limit]; omega)
    have ha3' : append0 ⟨.live [.agg [.int .i64 0, .sl [] .tight, .int .i64 0, .sl [] .tight, .sl [] .tight]] 5 :: .live [.agg [I64 w.days, v1, I64 w.hours, v2, encDs w.deals]] 5 :: bl, []⟩ (.sl [] .tight) (encDs w.deals) 8 64 = some (v3, ⟨.live [.agg [.int .i64 0, .sl [] .tight, .int .i64 0, .sl [] .tight, .sl [] .tight]] 5 :: .live [.agg [I64 w.days, v1, I64 w.hours, v2, encDs w.deals]] 5 :: (bl ++ x3), []⟩) := ha3
    obtain ⟨c31, c32, c33⟩ := ho3.cells
    have hlen' : lenAt ⟨.live [.agg [.int .i64 0, .sl [] .tight, .int .i64 0, .sl [] .tight, .sl [] .tight]] 5 :: .live [.agg [I64 w.days, v1, I64 w.hours, v2, encDs w.deals]] 5 :: bl, []⟩ v2 = some (I64 w.films.length) := hlen
    simp only [go_sem, Nat.reduceEqDiff, Nat.reduceAdd, Nat.reduceLT, Nat.reduceLeDiff, reduceIte, g1, g2, g3, g4, WCells, WEta, FCells, FEta, DCells, DEta, cellsIs, solidIs, cellsFs, solidFs, cellsDs, solidDs, Bool.and_self, Is_len, Fs_len, Ds_len, true_and, snW, hotW, snD, hotD, snIs, hotIs, cpA, cpZ, hlen', dec_ge hge, ha3', c11, c12, c21, c22, c31, c32, c33]
    refine hK _ _ ⟨v1, v2, v3, rfl, toA (hr.app x3), ⟨dn, toA (hf'.app x3), FA.imp (fun x y ⟨c, h1, h2⟩ => ⟨c, h1, toA (h2.app x3)⟩) hfa⟩, toA ho3⟩
  | cons x r =>
    obtain ⟨hk, hd2, hlt⟩ := drop_cons hdr
    have hxc := hs.c x (List.mem_of_getElem? hk)
    rcases hf with ⟨h1, _⟩ | ⟨h1, id, h2, hv2, h3⟩
    · simp at h1
    obtain ⟨j, rfl⟩ : ∃ j, id = j + 2 := ⟨id - 2, by omega⟩
    have h3' : bl[j]? = some (.live (dn ++ encF x :: r.map encF) 2) := h3
    have hjl := (List.getElem?_eq_some_iff.1 h3').1
    obtain ⟨c, x3, ha3, ho3⟩ := app0_ok (es := x.crowd.map I64) (q := .unk) (bl := cpZ :: cpA w v1 v2 (encDs w.deals) :: bl) (tk := []) (n0 := 2) (sz := 1) (bytes := 8) (by simp) (fun e he => by obtain ⟨z, _, rfl⟩ := List.mem_map.1 he; rfl) (by rw [List.length_map]; simp only [limit]; omega)
    have ha3' : append0 ⟨cpZ :: cpA w v1 v2 (encDs w.deals) :: bl, []⟩ (.sl [] .tight) (encIs x.crowd) 1 8 = some (c, ⟨cpZ :: cpA w v1 v2 (encDs w.deals) :: (bl ++ x3), []⟩) := ha3
    obtain ⟨c31, c32, c33⟩ := ho3.cells
    have hb4 : (bl ++ x3)[j]? = some (.live (dn ++ encF x :: r.map encF) 2) := by rw [List.getElem?_append_left hjl]; exact h3'
    have hix : idxAt ⟨cpZ :: cpA w v1 v2 (encDs w.deals) :: (bl ++ x3), []⟩ v2 (I64 k) 2 = some (.ptr (j + 2) k 0) := by
      rw [hv2, idxAt_ref, lsz_eq, hp2, hb4, if_pos ⟨⟨by omega, by simp [hdn]; omega⟩, rfl⟩]
      simp
    have hxk : (dn ++ encF x :: r.map encF)[k]? = some (encF x) := by rw [← hdn]; simp
    have had : addrAt ⟨cpZ :: cpA w v1 v2 (encDs w.deals) :: (bl ++ x3), []⟩ (.ptr (j + 2) k 0) 1 = some (.ptr (j + 2) k 1) := by
      rw [addrAt_ptr, lsz_eq, hp2, hb4]; rfl
    have hst : storeAt ⟨cpZ :: cpA w v1 v2 (encDs w.deals) :: (bl ++ x3), []⟩ (.ptr (j + 2) k 1) c 1 = some ⟨cpZ :: cpA w v1 v2 (encDs w.deals) :: (bl ++ x3).set j (.live (dn ++ .agg [I64 x.price, c] :: r.map encF) 2), []⟩ := by
      simp only [storeAt, hp2, hb4, hxk, c31, AV.solids, List.length_singleton, List.all_cons, List.all_nil, c32, Bool.and_self, and_self, if_true]
      rw [show writeCells (encF x) 1 [c] = some (.agg [I64 x.price, c]) from rfl]
      simp only [Option.map_some, List.set_cons_succ]
      rw [set_at _ _ _ _ hdn]
    have hll : lenAt ⟨cpZ :: cpA w v1 v2 (encDs w.deals) :: bl, []⟩ v2 = some (I64 w.films.length) := hlen
    have hA : cpA w v1 v2 (encDs w.deals) = .live [.agg [I64 w.days, v1, I64 w.hours, v2, encDs w.deals]] 5 := rfl
    have l3 : ∀ b : List Blk, loadAt ⟨cpZ :: cpA w v1 v2 (encDs w.deals) :: b, []⟩ (.ptr 1 0 3) none = some v2 := fun b => rfl
    have a3 : ∀ b : List Blk, addrAt ⟨cpZ :: cpA w v1 v2 (encDs w.deals) :: b, []⟩ (.ptr 1 0 0) 3 = some (.ptr 1 0 3) := fun b => rfl
    simp only [go_sem, Nat.reduceEqDiff, Nat.reduceAdd, Nat.reduceLT, Nat.reduceLeDiff, reduceIte, g1, g2, g3, g4, WCells, WEta, FCells, FEta, DCells, DEta, cellsIs, solidIs, cellsFs, solidFs, cellsDs, solidDs, Bool.and_self, Is_len, Fs_len, Ds_len, true_and, snW, hotW, snD, hotD, snIs, hotIs, a3, l3, hll, dec_lt hlt, Fs_idx _ hk, Nat.zero_add, ha3', hix, had, hst, c31, c32, c33, wrap_n1 k (by omega)]
    refine Nx_of (k + 1, r) (by simp) ?_
    simp only [go_sem, Nat.reduceEqDiff, Nat.reduceAdd, Nat.reduceLT, Nat.reduceLeDiff, reduceIte, g1, g2, g3]
    have nz : (bl ++ x3)[j]? = some (.live (dn ++ encF x :: r.map encF) 2) := hb4
    have k1 : ∀ {es : List AV} {v : AV}, OV 2 es 1 v (cpZ :: cpA w v1 v2 (encDs w.deals) :: (bl ++ x3)) → OV 2 es 1 v (cpZ :: cpA w v1 v2 (encDs w.deals) :: (bl ++ x3).set j (.live (dn ++ .agg [I64 x.price, c] :: r.map encF) 2)) := fun {es v} h => by
      have := h.set (id := j + 2) (b := .live (dn ++ .agg [I64 x.price, c] :: r.map encF) 2) (.inr ⟨by rw [hp2]; exact nz, by decide⟩)
      exact this
    refine ⟨trivial, trivial, trivial, trivial, hd2, by omega, _, dn ++ [.agg [I64 x.price, c]], rfl, k1 (hr.app x3), .inr ⟨by simp, j + 2, h2, by rw [hv2]; simp, ?_⟩, ?_⟩
    · rw [hp2, List.getElem?_set_self (by rw [List.length_append]; omega)]
      simp
    · rw [List.take_add_one, hk]
      exact FA.snoc ⟨c, rfl, k1 ho3⟩ (FA.imp (fun x y ⟨c, h1, h2⟩ => ⟨c, h1, k1 (h2.app x3)⟩) hfa)
theorem RV_of_WR {f : FuncId} {as : List AV} {v : AV} (h : WR ft (.f f) as .nil fun v' m => snap m dep v' = v) : RV ft f as v := by
  obtain ⟨n, p, h1, h2⟩ := h
  exact ⟨n, by unfold callV; rw [h1, Option.map_some, h2]⟩
theorem Copy_ok (w : Wk) (hs : Small w) : RV ft 13 [encW w] (encW w) := RV_of_WR (Copy_run w hs _ fun v bl h => h.snap [] 4)
end Go.Ab.T
end

section
namespace Go.Ab.T
set_option maxRecDepth 8000
set_option maxHeartbeats 1000000
theorem sumN_congr {f g : Nat → Nat} : ∀ {n a : Nat}, (∀ i, a ≤ i → i < a + n → f i = g i) → sumN n a f = sumN n a g
  | 0, _, _ => rfl
  | n + 1, a, h => by rw [sumN, sumN, h a (Nat.le_refl a) (by omega), sumN_congr fun i h1 h2 => h i (by omega) (by omega)]
theorem sumN_add (f g : Nat → Nat) : ∀ n a, sumN n a (fun i => f i + g i) = sumN n a f + sumN n a g
  | 0, _ => rfl
  | n + 1, a => by rw [sumN, sumN, sumN, sumN_add f g n (a + 1)]; omega
theorem sumN_zero : ∀ n a, sumN n a (fun _ => 0) = 0
  | 0, _ => rfl
  | n + 1, a => by rw [sumN, sumN_zero n]
theorem sumN_comm (f : Nat → Nat → Nat) (m b : Nat) : ∀ n a, (sumN n a fun i => sumN m b fun j => f i j) = sumN m b fun j => sumN n a fun i => f i j
  | 0, a => by simp only [sumN]; rw [sumN_zero]
  | n + 1, a => by
    simp only [sumN]
    rw [sumN_comm f m b n (a + 1), ← sumN_add]
theorem sumN_one (f : Nat → Nat) (a : Nat) : sumN 1 a f = f a := by simp [sumN]
theorem allN_congr {f g : Nat → Bool} : ∀ {n a : Nat}, (∀ i, a ≤ i → i < a + n → f i = g i) → allN n a f = allN n a g
  | 0, _, _ => rfl
  | n + 1, a, h => by rw [allN, allN, h a (Nat.le_refl a) (by omega), allN_congr fun i h1 h2 => h i (by omega) (by omega)]
theorem anyN_congr {f g : Nat → Bool} : ∀ {n a : Nat}, (∀ i, a ≤ i → i < a + n → f i = g i) → anyN n a f = anyN n a g
  | 0, _, _ => rfl
  | n + 1, a, h => by rw [anyN, anyN, h a (Nat.le_refl a) (by omega), anyN_congr fun i h1 h2 => h i (by omega) (by omega)]
theorem allN_true : ∀ n a, allN n a (fun _ => true) = true
  | 0, _ => rfl
  | n + 1, a => by rw [allN, allN_true n]; rfl
theorem allN_iff {f : Nat → Bool} : ∀ {n a : Nat}, allN n a f = true ↔ ∀ i, a ≤ i → i < a + n → f i = true
  | 0, a => ⟨fun _ i h1 h2 => by omega, fun _ => rfl⟩
  | n + 1, a => by
    rw [allN, Bool.and_eq_true, allN_iff]
    refine ⟨fun ⟨h1, h2⟩ i h3 h4 => ?_, fun h => ⟨h a (Nat.le_refl a) (by omega), fun i h1 h2 => h i (by omega) (by omega)⟩⟩
    rcases Nat.eq_or_lt_of_le h3 with rfl | h5
    · exact h1
    · exact h2 i h5 (by omega)
theorem anyN_iff {f : Nat → Bool} : ∀ {n a : Nat}, anyN n a f = true ↔ ∃ i, a ≤ i ∧ i < a + n ∧ f i = true
  | 0, a => ⟨(fun h => by cases h), (fun ⟨i, h1, h2, _⟩ => by omega)⟩
  | n + 1, a => by
    rw [anyN, Bool.or_eq_true, anyN_iff]
    refine ⟨fun h => ?_, fun ⟨i, h1, h2, h3⟩ => ?_⟩
    · rcases h with h | ⟨i, h1, h2, h3⟩
      · exact ⟨a, Nat.le_refl a, by omega, h⟩
      · exact ⟨i, by omega, by omega, h3⟩
    · rcases Nat.eq_or_lt_of_le h1 with rfl | h5
      · exact .inl h3
      · exact .inr ⟨i, h5, by omega, h3⟩
theorem sumN_full {f : Nat → Nat} (h : ∀ i, f i ≤ 1) : ∀ n a, decide (sumN n a f = n) = allN n a fun i => decide (f i = 1)
  | 0, _ => rfl
  | n + 1, a => by
    have h1 := h a
    have h2 := sumN_le h n (a + 1)
    have ih := sumN_full h n (a + 1)
    rw [sumN, allN, ← ih, Bool.eq_iff_iff]
    simp only [Bool.and_eq_true, decide_eq_true_eq]
    omega
theorem bit_cell (w : Wk) (p : List Int) (d : Dl) (day s h : Nat) : (shownN d.film p 0 0).testBit (slN w day s h) = (p[slN w day s h]? == some d.film) := by
  rw [shownN_bit]; simp
theorem scrN_eq (w : Wk) (p : List Int) (d : Dl) (day h : Nat) : ∀ (r : List Int) (k : Nat), w.rooms.drop k = r → scrN w d (shownN d.film p 0 0) day h r k = sumN r.length k fun s => cellN w p d day s h
  | [], _, _ => rfl
  | x :: r, k, hd => by
    obtain ⟨hk, hd2, hlt⟩ := drop_cons hd
    rw [scrN, List.length_cons, sumN, scrN_eq w p d day h r (k + 1) hd2, bit_cell]
    have hx : w.rooms.getD k 0 = x := by rw [List.getD_eq_getElem?_getD, hk]; rfl
    unfold cellN
    rw [hx]
theorem scr_eq (w : Wk) (p : List Int) (d : Dl) (day h : Nat) : scrN w d (shownN d.film p 0 0) day h w.rooms 0 = sumN w.rooms.length 0 fun s => cellN w p d day s h := scrN_eq w p d day h w.rooms 0 rfl
theorem hourN_sum (w : Wk) (p : List Int) (d : Dl) (day : Nat) : ∀ n h, (hourN w d (shownN d.film p 0 0) day n h).sum = sumN n h fun h => sumN w.rooms.length 0 fun s => cellN w p d day s h
  | 0, _ => rfl
  | n + 1, h => by rw [hourN, List.sum_cons, sumN, hourN_sum w p d day n (h + 1), scr_eq]
theorem hrsN_sum (w : Wk) (p : List Int) (d : Dl) : ∀ n day, (hrsN w d (shownN d.film p 0 0) n day).sum = sumN n day fun day => sumN (nH d) d.early.toNat fun h => sumN w.rooms.length 0 fun s => cellN w p d day s h
  | 0, _ => rfl
  | n + 1, day => by rw [hrsN, List.sum_append, sumN, hrsN_sum w p d n (day + 1), hourN_sum]; rfl
theorem hourN_all (w : Wk) (d : Dl) (sh day : Nat) (P : Nat → Bool) : ∀ n h, (hourN w d sh day n h).all P = allN n h fun h => P (scrN w d sh day h w.rooms 0)
  | 0, _ => rfl
  | n + 1, h => by rw [hourN, List.all_cons, allN, hourN_all w d sh day P n (h + 1)]
theorem hrsN_all (w : Wk) (d : Dl) (sh : Nat) (P : Nat → Bool) : ∀ n day, (hrsN w d sh n day).all P = allN n day fun day => allN (nH d) d.early.toNat fun h => P (scrN w d sh day h w.rooms 0)
  | 0, _ => rfl
  | n + 1, day => by rw [hrsN, List.all_append, allN, hrsN_all w d sh P n (day + 1), hourN_all]; rfl
theorem foldl_max_le : ∀ (l : List Nat) (a c : Nat), decide (l.foldl max a ≤ c) = (decide (a ≤ c) && l.all fun y => decide (y ≤ c))
  | [], a, c => by rw [List.foldl_nil, List.all_nil, Bool.and_true]
  | x :: l, a, c => by
    rw [List.foldl_cons, foldl_max_le l, List.all_cons, ← Bool.and_assoc]
    congr 1
    rw [Bool.eq_iff_iff]; simp only [Bool.and_eq_true, decide_eq_true_eq]; omega
theorem foldl_min_ge : ∀ (l : List Nat) (a c : Nat), decide (c ≤ l.foldl min a) = (decide (c ≤ a) && l.all fun y => decide (c ≤ y))
  | [], a, c => by rw [List.foldl_nil, List.all_nil, Bool.and_true]
  | x :: l, a, c => by
    rw [List.foldl_cons, foldl_min_ge l, List.all_cons, ← Bool.and_assoc]
    congr 1
    rw [Bool.eq_iff_iff]; simp only [Bool.and_eq_true, decide_eq_true_eq]; omega
theorem showsN_hour (w : Wk) (p : List Int) (d : Dl) (day h : Nat) : showsN w p d day 1 h 1 0 w.rooms.length = sumN w.rooms.length 0 fun s => cellN w p d day s h := by
  unfold showsN
  rw [sumN_one]
  exact sumN_congr fun s _ _ => sumN_one _ _
theorem showsN_screen (w : Wk) (p : List Int) (d : Dl) (day s : Nat) : showsN w p d day 1 d.early.toNat (nH d) s 1 = sumN (nH d) d.early.toNat fun h => cellN w p d day s h := by
  unfold showsN
  rw [sumN_one, sumN_one]
theorem allR_eq (w : Wk) (p : List Int) (d : Dl) : allR w p d = (hrs w d (shownN d.film p 0 0)).sum := by
  unfold allR hrs showsN
  rw [show d.to.toNat + 1 - d.fr.toNat = nD d from rfl, hrsN_sum]
  exact sumN_congr fun day _ _ => sumN_comm _ _ _ _ _
theorem runsN_eq (w : Wk) (sh day s : Nat) : ∀ n h, runsN w sh day s n h = allN n h fun h => sh.testBit (slN w day s h)
  | 0, _ => rfl
  | n + 1, h => by rw [runsN, allN, runsN_eq w sh day s n (h + 1)]
theorem hasScrN_eq (w : Wk) (d : Dl) (sh day : Nat) : ∀ (r : List Int) (k : Nat), w.rooms.drop k = r → hasScrN w d sh day r k = anyN r.length k fun s => decide (d.seats ≤ w.rooms.getD s 0) && runsN w sh day s (nH d) d.early.toNat
  | [], _, _ => rfl
  | x :: r, k, hd => by
    obtain ⟨hk, hd2, hlt⟩ := drop_cons hd
    have hx : w.rooms.getD k 0 = x := by rw [List.getD_eq_getElem?_getD, hk]; rfl
    rw [hasScrN, List.length_cons, anyN, hasScrN_eq w d sh day r (k + 1) hd2, hx]; rfl
theorem cleanN_eq (w : Wk) (d : Dl) (sh : Nat) : ∀ n day, cleanN w d sh n day = allN n day fun day => hasScrN w d sh day w.rooms 0
  | 0, _ => rfl
  | n + 1, day => by rw [cleanN, allN, cleanN_eq w d sh n (day + 1)]
theorem cleanR_eq (w : Wk) (p : List Int) (d : Dl) (hn : 1 ≤ nH d) (day : Nat) : cleanR w p d day = hasScrN w d (shownN d.film p 0 0) day w.rooms 0 := by
  rw [hasScrN_eq w d _ day w.rooms 0 rfl]
  unfold cleanR
  refine anyN_congr fun s _ _ => ?_
  rw [showsN_screen, sumN_full (fun h => cellN_le w p d day s h), runsN_eq, Bool.eq_iff_iff, Bool.and_eq_true, allN_iff, allN_iff]
  have hc : ∀ h, decide (cellN w p d day s h = 1) = (decide (d.seats ≤ w.rooms.getD s 0) && (shownN d.film p 0 0).testBit (slN w day s h)) := fun h => by
    rw [bit_cell]; unfold cellN; split <;> rename_i h1
    · rw [h1]; rfl
    · rw [Bool.eq_false_iff.2 h1]; rfl
  refine ⟨fun h => ⟨?_, fun i h1 h2 => ?_⟩, fun ⟨h1, h2⟩ i h3 h4 => ?_⟩
  · have := h d.early.toNat (Nat.le_refl _) (by omega)
    rw [hc, Bool.and_eq_true] at this; exact this.1
  · have := h i h1 h2
    rw [hc, Bool.and_eq_true] at this; exact this.2
  · rw [hc, h1, h2 i h3 h4]; rfl
/-- The reference and the program agree on which deals are kept. -/
theorem kept_eq {w : Wk} (p : List Int) {d : Dl} (hd : DV w d) : keptR w p d = keepsB w d (shownN d.film p 0 0) := by
  have hn : 1 ≤ nH d := by have := hd.el; have := hd.e0; unfold nH; omega
  unfold keptR keepsB
  rw [allR_eq]
  cases k1 : d.kind == 1
  case true => rfl
  cases k2 : d.kind == 2
  case true => rfl
  rw [if_neg (by decide), if_neg (by decide), if_neg (by decide), if_neg (by decide)]
  cases k4 : d.kind == 4
  case true =>
    have k3 : (d.kind == 3) = false := by rw [beq_iff_eq] at k4; rw [k4]; rfl
    have k5 : (d.kind == 5) = false := by rw [beq_iff_eq] at k4; rw [k4]; rfl
    rw [if_pos rfl, show decide ((((hrs w d (shownN d.film p 0 0)).foldl max 0 : Nat) : Int) ≤ 1) = decide ((hrs w d (shownN d.film p 0 0)).foldl max 0 ≤ 1) from decide_eq_decide.2 (by omega), foldl_max_le]
    unfold hrs
    rw [show d.to.toNat + 1 - d.fr.toNat = nD d from rfl, hrsN_all]
    refine allN_congr fun day _ _ => ?_
    unfold dayR hourR
    rw [k3, k4, k5]
    simp only [Bool.false_and, Bool.not_false, Bool.true_and, Bool.or_false, showsN_hour, scr_eq]
    exact allN_congr fun h _ _ => by rw [Bool.eq_iff_iff]; simp
  cases k5 : d.kind == 5
  case true =>
    have k3 : (d.kind == 3) = false := by rw [beq_iff_eq] at k5; rw [k5]; rfl
    rw [if_neg (by decide), if_pos rfl, show decide ((((hrs w d (shownN d.film p 0 0)).foldl min 8 : Nat) : Int) ≥ 1) = decide (1 ≤ (hrs w d (shownN d.film p 0 0)).foldl min 8) from decide_eq_decide.2 (by omega), foldl_min_ge]
    unfold hrs
    rw [show d.to.toNat + 1 - d.fr.toNat = nD d from rfl, hrsN_all]
    refine allN_congr fun day _ _ => ?_
    unfold dayR hourR
    rw [k3, k4, k5]
    simp only [Bool.false_and, Bool.not_false, Bool.true_and, Bool.false_or, showsN_hour, scr_eq]
    exact allN_congr fun h _ _ => by rw [Bool.eq_iff_iff]; simp; omega
  have k3 : (d.kind == 3) = true := by
    have h1 := hd.tm
    unfold tmOK at h1
    rw [k1, k2, k4, k5] at h1
    cases k3 : d.kind == 3
    · rw [k3] at h1; simp at h1
    · rfl
  rw [if_neg (by decide), if_neg (by decide), show d.to.toNat + 1 - d.fr.toNat = nD d from rfl, cleanN_eq]
  refine allN_congr fun day _ _ => ?_
  rw [← cleanR_eq w p d hn]
  unfold dayR hourR
  rw [k3, k4, k5]
  simp only [Bool.false_and, Bool.true_and, Bool.or_self, Bool.not_false, Bool.not_not]
  rw [allN_true, Bool.and_true]
theorem broken_eq {w : Wk} (p : List Int) : ∀ (l : List Dl) (k : Nat), (∀ d ∈ l, DV w d) → brokenR w p l k = brokenL w p l k
  | [], _, _ => rfl
  | d :: r, k, h => by rw [brokenR, brokenL, kept_eq p (h d (by simp)), broken_eq p r (k + 1) fun d hd => h d (by simp [hd])]
/-! ### Takings -/
theorem sumI_congr {f g : Nat → Int} : ∀ {n a : Nat}, (∀ i, a ≤ i → i < a + n → f i = g i) → sumI n a f = sumI n a g
  | 0, _, _ => rfl
  | n + 1, a, h => by rw [sumI, sumI, h a (Nat.le_refl a) (by omega), sumI_congr fun i h1 h2 => h i (by omega) (by omega)]
theorem sumI_add (f g : Nat → Int) : ∀ n a, sumI n a (fun i => f i + g i) = sumI n a f + sumI n a g
  | 0, _ => rfl
  | n + 1, a => by rw [sumI, sumI, sumI, sumI_add f g n (a + 1)]; omega
theorem sumI_zero : ∀ n a, sumI n a (fun _ => 0) = 0
  | 0, _ => rfl
  | n + 1, a => by rw [sumI, sumI_zero n]; rfl
theorem sumI_mul (c : Int) (f : Nat → Int) : ∀ n a, sumI n a (fun i => f i * c) = sumI n a f * c
  | 0, _ => by simp [sumI]
  | n + 1, a => by rw [sumI, sumI, sumI_mul c f n (a + 1), Int.add_mul]
theorem sumI_app (f : Nat → Int) : ∀ n m a, sumI (n + m) a f = sumI n a f + sumI m (a + n) f
  | 0, m, a => by simp [sumI]
  | n + 1, m, a => by rw [show n + 1 + m = (n + m) + 1 by omega, sumI, sumI, sumI_app f n m (a + 1), show a + 1 + n = a + (n + 1) by omega]; omega
theorem sumI_shift (F : Nat → Int) (b : Nat) : ∀ n a, sumI n a (fun h => F (b + h)) = sumI n (b + a) F
  | 0, _ => rfl
  | n + 1, a => by rw [sumI, sumI, sumI_shift F b n (a + 1), Nat.add_assoc]
theorem sumI_flat (F : Nat → Int) (H : Nat) : ∀ n a, sumI n a (fun i => sumI H 0 fun h => F (i * H + h)) = sumI (n * H) (a * H) F
  | 0, _ => by simp [sumI]
  | n + 1, a => by
    rw [sumI, sumI_flat F H n (a + 1), sumI_shift F (a * H) H 0, Nat.add_zero, Nat.succ_mul, Nat.succ_mul, Nat.add_comm (n * H) H, sumI_app]
theorem pplS_range (w : Wk) (m : Mv) (s : Nat) : ∀ n a, pplS w m ((List.range' a n).filter s.testBit) = sumI n a fun i => if s.testBit i = true then pplN w m i else 0
  | 0, _ => rfl
  | n + 1, a => by
    rw [List.range'_succ, List.filter_cons, sumI]
    split
    · rw [pplS, pplS_range w m s n (a + 1)]
    · rw [pplS_range w m s n (a + 1)]; omega
theorem pplS_sum (w : Wk) (m : Mv) (s L : Nat) (hL : lenN s ≤ L) : pplS w m (numsN s) = sumI L 0 fun i => if s.testBit i = true then pplN w m i else 0 := by
  unfold numsN
  rw [List.range_eq_range', pplS_range]
  obtain ⟨k, rfl⟩ : ∃ k, L = lenN s + k := ⟨L - lenN s, by omega⟩
  rw [sumI_app, show (sumI k (0 + lenN s) fun i => if s.testBit i = true then pplN w m i else 0) = sumI k (0 + lenN s) fun _ => 0 from sumI_congr fun i h1 h2 => ?_, sumI_zero]
  · omega
  · rw [Nat.testBit_lt_two_pow (Nat.lt_of_lt_of_le (lenN_lt s) (Nat.pow_le_pow_right (by decide) (by omega)))]; rfl
theorem shownN_lt2 (f : Int) : ∀ (p : List Int) (k s : Nat), s < 2 ^ (k + p.length) → shownN f p k s < 2 ^ (k + p.length)
  | [], _, _, h => h
  | x :: r, k, s, h => by
    unfold shownN
    rw [show k + (x :: r).length = k + 1 + r.length by simp; omega] at h ⊢
    refine shownN_lt2 f r (k + 1) _ ?_
    split
    · exact or_lt s (2 ^ k) _ h (Nat.pow_lt_pow_right (by omega) (by omega))
    · exact h
theorem seeV_slot {w : Wk} (hw : WV w) {m : Mv} {k : Nat} (hm : w.films[k]? = some m) (i : Nat) : seeV w (k : Int) (i / w.hours.toNat % w.rooms.length) (i % w.hours.toNat) = pplN w m i * m.price := by
  unfold seeV pplN
  rw [if_neg (by rw [beq_iff_eq]; omega), Int.toNat_natCast, hm, Int.mul_comm]
theorem takeF_eq {w : Wk} (hw : WV w) {p : List Int} (hp : ∀ f ∈ p, -1 ≤ f ∧ f ≤ (w.films.length : Int) - 1) : ∀ (r : List Mv) (k : Nat), w.films.drop k = r →
    takeF w p r k = sumI p.length 0 fun i => if (k : Int) ≤ p.getD i 0 then seeV w (p.getD i 0) (i / w.hours.toNat % w.rooms.length) (i % w.hours.toNat) else 0
  | [], k, hd => by
    have := drop_nil hd
    rw [takeF]
    refine (Eq.trans (sumI_congr fun i _ h2 => ?_) (sumI_zero p.length 0)).symm
    rw [if_neg]
    have h3 : p[i]? = some (p.getD i 0) := by rw [List.getD_eq_getElem?_getD, List.getElem?_eq_getElem (by omega)]; rfl
    have := hp _ (List.mem_of_getElem? h3)
    omega
  | m :: r, k, hd => by
    obtain ⟨hk, hd2, hlt⟩ := drop_cons hd
    have hs : shownN (k : Int) p 0 0 < 2 ^ p.length := by have := shownN_lt2 (k : Int) p 0 0 (Nat.two_pow_pos _); simpa using this
    rw [takeF, takeF_eq hw hp r (k + 1) hd2, pplS_sum w m _ p.length (lenN_le hs), ← sumI_mul, ← sumI_add]
    refine sumI_congr fun i _ h2 => ?_
    have h3 : p[i]? = some (p.getD i 0) := by rw [List.getD_eq_getElem?_getD, List.getElem?_eq_getElem (by omega)]; rfl
    have hb : (shownN (k : Int) p 0 0).testBit i = (p.getD i 0 == (k : Int)) := by rw [shownN_bit, Nat.zero_testBit, Nat.sub_zero, h3]; rfl
    rw [hb]
    generalize p.getD i 0 = x at *
    rcases Int.lt_trichotomy x (k : Int) with h | h | h
    · rw [if_neg (by rw [beq_iff_eq]; omega), if_neg (by omega), if_neg (by omega)]; omega
    · rw [if_pos (by rw [beq_iff_eq]; exact h), if_neg (by omega), if_pos (by omega), h, seeV_slot hw hk]; omega
    · rw [if_neg (by rw [beq_iff_eq]; omega), if_pos (by omega), if_pos (by omega)]; omega
theorem slot_parts {R H day s h : Nat} (hs : s < R) (hh : h < H) : ((day * R + s) * H + h) / H % R = s ∧ ((day * R + s) * H + h) % H = h := by
  have hH : 0 < H := by omega
  have e1 : ((day * R + s) * H + h) / H = day * R + s := by
    rw [Nat.mul_comm, Nat.mul_add_div hH, Nat.div_eq_of_lt hh, Nat.add_zero]
  refine ⟨?_, ?_⟩
  · rw [e1, Nat.mul_comm, Nat.mul_add_mod, Nat.mod_eq_of_lt hs]
  · rw [Nat.mul_comm, Nat.mul_add_mod, Nat.mod_eq_of_lt hh]
theorem slots_nat {w : Wk} (hw : WV w) : w.slots = ((w.days.toNat * w.rooms.length * w.hours.toNat : Nat) : Int) := by
  have h1 := hw.h1
  have d1 := hw.d1
  unfold Wk.slots
  rw [Int.natCast_mul, Int.natCast_mul, Int.toNat_of_nonneg (by omega), Int.toNat_of_nonneg (by omega)]
/-- What slots take, one by one. -/
def takeS (w : Wk) (p : List Int) : Int := sumI p.length 0 fun i => seeV w (p.getD i 0) (i / w.hours.toNat % w.rooms.length) (i % w.hours.toNat)
theorem takeR_eq {w : Wk} (hw : WV w) {p : List Int} (hp : progOK w p = true) : takeR w p = takeS w p := by
  have hl := prog_slots hp
  have hsl := slots_nat hw
  unfold takeR takeS
  have hL : p.length = w.days.toNat * w.rooms.length * w.hours.toNat := by omega
  rw [hL, ← Nat.zero_mul w.hours.toNat, ← sumI_flat, ← Nat.zero_mul w.rooms.length, ← sumI_flat]
  simp only [Nat.zero_mul]
  refine sumI_congr fun day _ _ => sumI_congr fun s _ h2 => sumI_congr fun h _ h3 => ?_
  obtain ⟨e1, e2⟩ := slot_parts (day := day) (R := w.rooms.length) (H := w.hours.toNat) (s := s) (h := h) (by omega) (by omega)
  show _ = seeV w (p.getD ((day * w.rooms.length + s) * w.hours.toNat + h) 0) (((day * w.rooms.length + s) * w.hours.toNat + h) / w.hours.toNat % w.rooms.length) (((day * w.rooms.length + s) * w.hours.toNat + h) % w.hours.toNat)
  rw [e1, e2]; rfl
theorem prog_in {w : Wk} {p : List Int} (h : progOK w p = true) : ∀ f ∈ p, -1 ≤ f ∧ f ≤ (w.films.length : Int) - 1 := fun f hf => by
  unfold progOK at h
  simp only [Bool.and_eq_true, List.all_eq_true] at h
  exact inR_iff.1 (h.1 f hf)
/-- The reference and the program agree on the takings. -/
theorem take_eq {w : Wk} (hw : WV w) {p : List Int} (hp : progOK w p = true) : takeF w p w.films 0 = takeS w p := by
  rw [takeF_eq hw (prog_in hp) w.films 0 rfl]
  refine sumI_congr fun i _ h2 => ?_
  split
  · rfl
  · rename_i h3
    have h4 : p[i]? = some (p.getD i 0) := by rw [List.getD_eq_getElem?_getD, List.getElem?_eq_getElem (by omega)]; rfl
    have := prog_in hp _ (List.mem_of_getElem? h4)
    have h5 : p.getD i 0 = -1 := by omega
    rw [h5]; rfl
end Go.Ab.T
end
