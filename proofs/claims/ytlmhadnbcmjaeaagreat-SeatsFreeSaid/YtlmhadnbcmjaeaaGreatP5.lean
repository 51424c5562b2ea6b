/-
 A part of the proofs over this seat.
 (The texts KqM3 KqM4 KqM5, one behind the other.)
-/
import Derived.Test.YtlmhadnbcmjaeaaGreatP4
set_option linter.unusedSimpArgs false
set_option linter.unusedVariables false
set_option linter.unusedSectionVars false
section
namespace Go.Ab.T
set_option maxRecDepth 8000
set_option maxHeartbeats 4000000
structure HZ where
 seats : List (List Int)
 ords : List (Int × Od)
 vain : List Int
def lkP (ords : List (Int × Od)) (n : Int) : Option Od := (ords.find? (·.1 == n)).map (·.2)
def hasB (x : Od) : Bool := x.pc.st == 2 || x.pc.st == 3
def offR (q : Int → Bool) (row : List Int) : List Int := row.map fun v => if q v = true then -1 else v
def offM (q : Int → Bool) (seats : List (List Int)) : List (List Int) := seats.map (offR q)
def killM (q : Int → Bool) (st : Int) (S : HZ) : HZ := ⟨offM q S.seats, S.ords.map fun p => if q p.1 = true then (p.1, outO p.2 st) else p, S.vain⟩
def lapB (hold m : Int) (x : Od) : Bool := x.pc.st == 2 && decide (x.asked + hold ≤ m)
def lapP (hold m : Int) (ords : List (Int × Od)) (v : Int) : Bool := match lkP ords v with | some x => lapB hold m x | none => false
def lapseM (hold m : Int) (S : HZ) : HZ := killM (lapP hold m S.ords) 4 S
def idsM (rows : List (List Int)) : List Rw := rows.map fun r => (0, r)
def bestS (seats : List (List Int)) (z : Nat) : Option (Nat × Nat) := bestM (idsM seats) z
def seatM (seats : List (List Int)) (r s z : Nat) (n : Int) : List (List Int) := seats.set r (fillR (seats.getD r []) s z n)
def updM (ords : List (Int × Od)) (n : Int) (x : Od) : List (Int × Od) := ords.map fun p => if p.1 = n then (n, x) else p
def askM (c : Cl) (S : HZ) : HZ := match lkP S.ords c.order with
 | some _ => S
 | none => match bestS S.seats c.size.toNat with
  | none => ⟨S.seats, S.ords ++ [(c.order, refO c)], S.vain⟩
  | some q => ⟨seatM S.seats q.1 q.2 c.size.toNat c.order, S.ords ++ [(c.order, heldO c q.1 q.2)], S.vain⟩
def payM (n : Int) (S : HZ) : HZ := match lkP S.ords n with
 | some x => if x.pc.st = 2 then ⟨S.seats, updM S.ords n (paidO x), S.vain⟩ else ⟨S.seats, S.ords, S.vain ++ [n]⟩
 | none => ⟨S.seats, S.ords, S.vain ++ [n]⟩
def dropM (n : Int) (S : HZ) : HZ := match lkP S.ords n with
 | some x => if hasB x = true then killM (· == n) 5 S else S
 | none => S
def callM (c : Cl) (S : HZ) : HZ := if c.kind = 1 then askM c S else if c.kind = 2 then payM c.order S else if c.kind = 3 then dropM c.order S else S
def hearM (hold : Int) (S : HZ) (c : Cl) : HZ := callM c (lapseM hold c.at' S)
structure HInv (S : HZ) : Prop where
 nd : (S.ords.map Prod.fst).Nodup
 pos : ∀ p ∈ S.ords, 0 ≤ p.1
 out : ∀ p ∈ S.ords, hasB p.2 = false → p.2.pc.row = -1 ∧ p.2.pc.seat = -1
 inn : ∀ p ∈ S.ords, hasB p.2 = true → ∃ (r s z : Nat) (row : List Int), p.2.pc.row = r ∧ p.2.pc.seat = s ∧ p.2.pc.size = z ∧ S.seats[r]? = some row ∧ s + z ≤ row.length
 own : ∀ (r : Nat) (row : List Int) (v : Int), S.seats[r]? = some row → v ∈ row → v = -1 ∨ ∃ x, (v, x) ∈ S.ords ∧ hasB x = true
 iff : ∀ p ∈ S.ords, hasB p.2 = true → ∀ (r : Nat) (row : List Int) (i : Nat), S.seats[r]? = some row → i < row.length → (row[i]? = some p.1 ↔ (p.2.pc.row = r ∧ p.2.pc.seat ≤ i ∧ (i : Int) < p.2.pc.seat + p.2.pc.size))
 sts : ∀ p ∈ S.ords, 1 ≤ p.2.pc.st ∧ p.2.pc.st ≤ 5
 szs : ∀ p ∈ S.ords, 1 ≤ p.2.pc.size ∧ p.2.pc.size ≤ 12
 asd : ∀ p ∈ S.ords, 0 ≤ p.2.asked ∧ p.2.asked ≤ 9999
 top : ∀ p ∈ S.ords, p.1 ≤ 99
theorem mem_key {l : List (Int × Od)} (hnd : (l.map Prod.fst).Nodup) {n : Int} {x y : Od} (h1 : (n, x) ∈ l) (h2 : (n, y) ∈ l) : x = y := by
 induction l with
 | nil => cases h1
 | cons p r ih =>
  rw [List.map_cons, List.nodup_cons] at hnd
  have hk : ∀ z, (n, z) ∈ r → n ∈ r.map Prod.fst := fun z hz => List.mem_map.2 ⟨_, hz, rfl⟩
  rcases List.mem_cons.1 h1 with e1 | e1 <;> rcases List.mem_cons.1 h2 with e2 | e2
  ·rw [← e1] at e2; cases e2; rfl
  ·exact absurd (hk _ e2) (by rw [← e1] at hnd; exact hnd.1)
  ·exact absurd (hk _ e1) (by rw [← e2] at hnd; exact hnd.1)
  ·exact ih hnd.2 e1 e2
theorem lkP_mem {l : List (Int × Od)} {n : Int} {x : Od} (h : lkP l n = some x) : (n, x) ∈ l := by
 unfold lkP at h
 cases hf : l.find? (·.1 == n) with
 | none => rw [hf] at h; cases h
 | some e =>
  rw [hf] at h
  have h1 := List.find?_some hf
  have h2 := List.mem_of_find?_eq_some hf
  obtain ⟨k, e'⟩ := e
  cases h
  rw [beq_iff_eq] at h1
  dsimp only at h1
  rw [h1] at h2; exact h2
theorem lkP_none {l : List (Int × Od)} {n : Int} (h : lkP l n = none) (x : Od) : (n, x) ∉ l := fun hm => by
 unfold lkP at h
 rw [Option.map_eq_none_iff, List.find?_eq_none] at h
 exact absurd (h _ hm) (by simp)
theorem lkP_of {l : List (Int × Od)} (hnd : (l.map Prod.fst).Nodup) {n : Int} {x : Od} (h : (n, x) ∈ l) : lkP l n = some x := by
 cases hl : lkP l n with
 | none => exact absurd h (lkP_none hl x)
 | some y => rw [mem_key hnd (lkP_mem hl) h]
theorem offR_len (q : Int → Bool) (row : List Int) : (offR q row).length = row.length := by unfold offR; simp
theorem offR_get (q : Int → Bool) (row : List Int) (i : Nat) : (offR q row)[i]? = row[i]?.map fun v => if q v = true then -1 else v := by unfold offR; rw [List.getElem?_map]
theorem offM_get (q : Int → Bool) (seats : List (List Int)) (r : Nat) : (offM q seats)[r]? = seats[r]?.map (offR q) := by unfold offM; rw [List.getElem?_map]
theorem killM_keys (q : Int → Bool) (st : Int) (S : HZ) : (killM q st S).ords.map Prod.fst = S.ords.map Prod.fst := by
 unfold killM
 rw [List.map_map]
 apply List.map_congr_left
 intro p _
 simp only [Function.comp]
 split <;> rfl
theorem hasB_out (x : Od) {st : Int} (h2 : st ≠ 2) (h3 : st ≠ 3) : hasB (outO x st) = false := by
 unfold hasB outO
 rw [beq_eq_false_iff_ne.2 h2, beq_eq_false_iff_ne.2 h3]; rfl
theorem killM_mem {q : Int → Bool} {st : Int} {S : HZ} {p : Int × Od} (h : p ∈ (killM q st S).ords) : ∃ x, (p.1, x) ∈ S.ords ∧ ((q p.1 = true ∧ p.2 = outO x st) ∨ (q p.1 = false ∧ p.2 = x)) := by
 obtain ⟨p0, h0, h1⟩ := List.mem_map.1 h
 by_cases hq : q p0.1 = true
 ·rw [if_pos hq] at h1; subst h1; exact ⟨p0.2, h0, .inl ⟨hq, rfl⟩⟩
 ·rw [if_neg hq] at h1; subst h1; exact ⟨p0.2, h0, .inr ⟨by simpa using hq, rfl⟩⟩
theorem killM_has {q : Int → Bool} {st : Int} (h2 : st ≠ 2) (h3 : st ≠ 3) {S : HZ} {p : Int × Od} (h : p ∈ (killM q st S).ords) (hb : hasB p.2 = true) : p ∈ S.ords ∧ q p.1 = false := by
 obtain ⟨x, hx, ⟨_, e⟩ | ⟨hq, e⟩⟩ := killM_mem h
 ·rw [e, hasB_out x h2 h3] at hb; cases hb
 ·rw [← e] at hx; exact ⟨hx, hq⟩
theorem HInv.killed {S : HZ} (h : HInv S) {q : Int → Bool} {st : Int} (h2 : st ≠ 2) (h3 : st ≠ 3) (hst : 1 ≤ st ∧ st ≤ 5) : HInv (killM q st S) := by
 refine ⟨by rw [killM_keys]; exact h.nd, fun p hp => ?_, fun p hp hb => ?_, fun p hp hb => ?_, fun r row v hr hv => ?_, fun p hp hb r row i hr hi => ?_, fun p hp => ?_, fun p hp => ?_, fun p hp => ?_, fun p hp => ?_⟩
 ·obtain ⟨x, hx, _⟩ := killM_mem hp; exact h.pos (p.1, x) hx
 ·obtain ⟨x, hx, ⟨_, e⟩ | ⟨_, e⟩⟩ := killM_mem hp
  ·rw [e]; exact ⟨rfl, rfl⟩
  ·rw [e] at hb ⊢; exact h.out _ hx hb
 ·obtain ⟨hm, hq⟩ := killM_has h2 h3 hp hb
  obtain ⟨r, s, z, row, e1, e2, e3, e4, e5⟩ := h.inn p hm hb
  exact ⟨r, s, z, offR q row, e1, e2, e3, by show (offM q S.seats)[r]? = _; rw [offM_get, e4]; rfl, by rw [offR_len]; exact e5⟩
 ·rw [show (killM q st S).seats = offM q S.seats from rfl, offM_get] at hr
  cases hs : S.seats[r]? with
  | none => rw [hs] at hr; cases hr
  | some row0 =>
   rw [hs, Option.map_some] at hr
   cases hr
   obtain ⟨w, hw, rfl⟩ := List.mem_map.1 hv
   by_cases hq : q w = true
   ·rw [if_pos hq]; exact .inl rfl
   ·rw [if_neg hq]
    rcases h.own r row0 w hs hw with e | ⟨x, hx, hb⟩
    ·exact .inl e
    ·exact .inr ⟨x, List.mem_map.2 ⟨_, hx, by rw [if_neg hq]⟩, hb⟩
 ·obtain ⟨hm, hq⟩ := killM_has h2 h3 hp hb
  rw [show (killM q st S).seats = offM q S.seats from rfl, offM_get] at hr
  cases hs : S.seats[r]? with
  | none => rw [hs] at hr; cases hr
  | some row0 =>
   rw [hs, Option.map_some] at hr
   cases hr
   rw [offR_len] at hi
   rw [← h.iff p hm hb r row0 i hs hi, offR_get, List.getElem?_eq_getElem hi, Option.map_some]
   have hpos := h.pos p hm
   constructor
   ·intro e
    by_cases hq' : q row0[i] = true
    ·rw [if_pos hq'] at e; have := Option.some.inj e; omega
    ·rw [if_neg hq'] at e; exact e
   ·intro e
    have e' := Option.some.inj e
    rw [e', if_neg (by rw [hq]; decide)]
 ·obtain ⟨x, hx, ⟨_, e⟩ | ⟨_, e⟩⟩ := killM_mem hp
  ·rw [e]; exact hst
  ·rw [e]; exact h.sts _ hx
 ·obtain ⟨x, hx, ⟨_, e⟩ | ⟨_, e⟩⟩ := killM_mem hp
  ·rw [e]; exact h.szs _ hx
  ·rw [e]; exact h.szs _ hx
 ·obtain ⟨x, hx, ⟨_, e⟩ | ⟨_, e⟩⟩ := killM_mem hp
  ·rw [e]; exact h.asd _ hx
  ·rw [e]; exact h.asd _ hx
 ·obtain ⟨x, hx, _⟩ := killM_mem hp; exact h.top (p.1, x) hx
theorem fillR_get (row : List Int) (s : Nat) (o : Int) : ∀ (n i : Nat), s + n ≤ row.length → (fillR row s n o)[i]? = if s ≤ i ∧ i < s + n then some o else row[i]?
 | 0, i, _ => by rw [if_neg (by omega)]; rfl
 | n + 1, i, h => by
  have ih := fillR_get row s o n i (by omega)
  show ((fillR row s n o).set (s + n) o)[i]? = _
  rw [List.getElem?_set]
  by_cases hi : s + n = i
  ·rw [if_pos hi, if_pos (by rw [fillR_len]; omega), if_pos (by omega)]
  ·rw [if_neg hi, ih]
   by_cases hj : s ≤ i ∧ i < s + n
   ·rw [if_pos hj, if_pos (by omega)]
   ·rw [if_neg hj, if_neg (by omega)]
theorem HInv.fill_off {S : HZ} (h : HInv S) {p : Int × Od} (hp : p ∈ S.ords) (hb : hasB p.2 = true) {r s z : Nat} (h1 : p.2.pc.row = r) (h2 : p.2.pc.seat = s) (h3 : p.2.pc.size = z) {row : List Int} (hr : S.seats[r]? = some row) (hsz : s + z ≤ row.length) :
  S.seats.set r (fillR row s z (-1)) = offM (· == p.1) S.seats := by
 apply List.ext_getElem?
 intro k
 rw [List.getElem?_set, offM_get]
 have hrl : r < S.seats.length := (List.getElem?_eq_some_iff.1 hr).1
 by_cases hk : r = k
 ·subst hk
  rw [if_pos rfl, if_pos hrl, hr, Option.map_some]
  congr 1
  apply List.ext_getElem?
  intro i
  rw [fillR_get row s (-1) z i hsz, offR_get]
  by_cases hi : i < row.length
  ·have hh := h.iff p hp hb r row i hr hi
   rw [h1, h2, h3] at hh
   rw [List.getElem?_eq_getElem hi, Option.map_some] at *
   by_cases hc : s ≤ i ∧ i < s + z
   ·have := Option.some.inj (hh.2 ⟨rfl, by omega, by omega⟩)
    rw [if_pos hc, if_pos (by rw [this]; simp)]
   ·rw [if_neg hc, if_neg]
    intro e
    rw [beq_iff_eq] at e
    obtain ⟨_, a, b⟩ := hh.1 (by rw [e])
    omega
  ·rw [List.getElem?_eq_none (by omega), if_neg (by omega)]; rfl
 ·rw [if_neg hk]
  cases hs : S.seats[k]? with
  | none => rfl
  | some row' =>
   rw [Option.map_some]
   congr 1
   apply List.ext_getElem?
   intro i
   rw [offR_get]
   by_cases hi : i < row'.length
   ·have hh := h.iff p hp hb k row' i hs hi
    rw [List.getElem?_eq_getElem hi, Option.map_some] at *
    rw [if_neg]
    intro e
    rw [beq_iff_eq] at e
    obtain ⟨a, _⟩ := hh.1 (by rw [e])
    omega
   ·rw [List.getElem?_eq_none (by omega)]; rfl
theorem offR_offR (q q' : Int → Bool) (row : List Int) : offR q (offR q' row) = offR (fun v => q' v || q v) row := by
 unfold offR
 rw [List.map_map]
 apply List.map_congr_left
 intro v _
 simp only [Function.comp]
 by_cases h' : q' v = true
 ·simp [h']
 ·simp [h']
theorem killM_congr {q q' : Int → Bool} {st : Int} {S : HZ} (hs : ∀ row ∈ S.seats, ∀ v ∈ row, v = -1 ∨ q v = q' v) (ho : ∀ p ∈ S.ords, q p.1 = q' p.1) : killM q st S = killM q' st S := by
 unfold killM
 congr 1
 ·unfold offM offR
  apply List.map_congr_left
  intro r hr
  apply List.map_congr_left
  intro v hv
  rcases hs r hr v hv with rfl | e
  ·split <;> split <;> rfl
  ·rw [e]
 ·apply List.map_congr_left
  intro p hp
  rw [ho p hp]
theorem HInv.seat_key {S : HZ} (h : HInv S) {row : List Int} (hr : row ∈ S.seats) {v : Int} (hv : v ∈ row) : v = -1 ∨ ∃ x, (v, x) ∈ S.ords ∧ hasB x = true := by
 obtain ⟨i, hi, rfl⟩ := List.getElem_of_mem hr
 exact h.own i _ v (List.getElem?_eq_getElem hi) hv
theorem HInv.congr {S : HZ} (h : HInv S) {q q' : Int → Bool} {st : Int} (ho : ∀ p ∈ S.ords, q p.1 = q' p.1) : killM q st S = killM q' st S :=
 killM_congr (fun row hr v hv => by
  rcases h.seat_key hr hv with e | ⟨x, hx, _⟩
  ·exact .inl e
  ·exact .inr (ho _ hx)) ho
theorem HInv.lapse {S : HZ} (h : HInv S) (hold m : Int) : HInv (lapseM hold m S) := h.killed (by decide) (by decide) (by decide)
theorem lapP_of {S : HZ} (h : HInv S) {hold m : Int} {p : Int × Od} (hp : p ∈ S.ords) : lapP hold m S.ords p.1 = lapB hold m p.2 := by
 unfold lapP; rw [lkP_of h.nd hp]
theorem lkP_app (l : List (Int × Od)) (n : Int) (x : Od) (k : Int) : lkP (l ++ [(n, x)]) k = (lkP l k).or (if n = k then some x else none) := by
 unfold lkP
 rw [List.find?_append]
 cases l.find? (·.1 == k) with
 | some e => rfl
 | none =>
  rw [Option.none_or]
  by_cases h : n = k
  ·rw [if_pos h, List.find?_cons_of_pos (by simp [h])]; rfl
  ·rw [if_neg h, List.find?_cons_of_neg (by simp [h])]; rfl
theorem updM_keys (l : List (Int × Od)) (n : Int) (x : Od) : (updM l n x).map Prod.fst = l.map Prod.fst := by
 unfold updM
 rw [List.map_map]
 apply List.map_congr_left
 intro p _
 simp only [Function.comp]
 split
 ·rename_i h; exact h.symm
 ·rfl
theorem updM_mem {l : List (Int × Od)} {n : Int} {x : Od} {p : Int × Od} (h : p ∈ updM l n x) : (p = (n, x) ∧ ∃ y, (n, y) ∈ l) ∨ (p ∈ l ∧ p.1 ≠ n) := by
 obtain ⟨q, hq, e⟩ := List.mem_map.1 h
 by_cases hc : q.1 = n
 ·rw [if_pos hc] at e
  exact .inl ⟨e.symm, q.2, by rw [← hc]; exact hq⟩
 ·rw [if_neg hc] at e
  subst e; exact .inr ⟨hq, hc⟩
theorem mem_updM {l : List (Int × Od)} {n : Int} {x : Od} {p : Int × Od} (h : p ∈ l) (hne : p.1 ≠ n) : p ∈ updM l n x := List.mem_map.2 ⟨p, h, if_neg hne⟩
theorem mem_updM_self {l : List (Int × Od)} {n : Int} {x y : Od} (h : (n, y) ∈ l) : (n, x) ∈ updM l n x := List.mem_map.2 ⟨_, h, if_pos rfl⟩
theorem HInv.vain {S : HZ} (h : HInv S) (v : List Int) : HInv ⟨S.seats, S.ords, v⟩ := ⟨h.nd, h.pos, h.out, h.inn, h.own, h.iff, h.sts, h.szs, h.asd, h.top⟩
theorem HInv.paid {S : HZ} (h : HInv S) {n : Int} {x : Od} (hx : (n, x) ∈ S.ords) (h2 : x.pc.st = 2) : HInv ⟨S.seats, updM S.ords n (paidO x), S.vain⟩ := by
 have hb : hasB x = true := by unfold hasB; rw [h2]; rfl
 have hbp : hasB (paidO x) = true := rfl
 refine ⟨by show ((updM S.ords n (paidO x)).map Prod.fst).Nodup; rw [updM_keys]; exact h.nd, fun p hp => ?_, fun p hp hb' => ?_, fun p hp hb' => ?_, fun r row v hr hv => ?_, fun p hp hb' r row i hr hi => ?_, fun p hp => ?_, fun p hp => ?_, fun p hp => ?_, fun p hp => ?_⟩
 ·rcases updM_mem hp with ⟨e, _⟩ | ⟨hp, _⟩
  ·rw [e]; exact h.pos (n, x) hx
  ·exact h.pos _ hp
 ·rcases updM_mem hp with ⟨e, _⟩ | ⟨hp, _⟩
  ·rw [e, hbp] at hb'; cases hb'
  ·exact h.out _ hp hb'
 ·rcases updM_mem hp with ⟨e, _⟩ | ⟨hp, _⟩
  ·rw [e]; exact h.inn (n, x) hx hb
  ·exact h.inn _ hp hb'
 ·rcases h.own r row v hr hv with e | ⟨y, hy, hyb⟩
  ·exact .inl e
  ·by_cases hc : v = n
   ·exact .inr ⟨paidO x, by rw [hc]; exact mem_updM_self hx, hbp⟩
   ·exact .inr ⟨y, mem_updM hy hc, hyb⟩
 ·rcases updM_mem hp with ⟨e, _⟩ | ⟨hp, _⟩
  ·rw [e]; exact h.iff (n, x) hx hb r row i hr hi
  ·exact h.iff _ hp hb' r row i hr hi
 ·rcases updM_mem hp with ⟨e, _⟩ | ⟨hp, _⟩
  ·rw [e]; exact ⟨(by decide : (1 : Int) ≤ 3), (by decide : (3 : Int) ≤ 5)⟩
  ·exact h.sts _ hp
 ·rcases updM_mem hp with ⟨e, _⟩ | ⟨hp, _⟩
  ·rw [e]; show 1 ≤ x.pc.size ∧ x.pc.size ≤ 12; exact h.szs (n, x) hx
  ·exact h.szs _ hp
 ·rcases updM_mem hp with ⟨e, _⟩ | ⟨hp, _⟩
  ·rw [e]; exact h.asd (n, x) hx
  ·exact h.asd _ hp
 ·rcases updM_mem hp with ⟨e, _⟩ | ⟨hp, _⟩
  ·rw [e]; exact h.top (n, x) hx
  ·exact h.top _ hp
theorem HInv.refused {S : HZ} (h : HInv S) {c : Cl} (h0 : 0 ≤ c.order) (h9 : c.order ≤ 99) (hz : 1 ≤ c.size ∧ c.size ≤ 12) (ha : 0 ≤ c.at' ∧ c.at' ≤ 9999) (hl : lkP S.ords c.order = none) : HInv ⟨S.seats, S.ords ++ [(c.order, refO c)], S.vain⟩ := by
 have hnew : ∀ p ∈ S.ords ++ [(c.order, refO c)], p ∈ S.ords ∨ p = (c.order, refO c) := fun p hp => by simpa using hp
 refine ⟨?_, fun p hp => ?_, fun p hp hb' => ?_, fun p hp hb' => ?_, fun r row v hr hv => ?_, fun p hp hb' r row i hr hi => ?_, fun p hp => ?_, fun p hp => ?_, fun p hp => ?_, fun p hp => ?_⟩
 ·show ((S.ords ++ [(c.order, refO c)]).map Prod.fst).Nodup
  rw [List.map_append, List.nodup_append]
  refine ⟨h.nd, by simp, fun u hu v hv => ?_⟩
  simp at hv
  obtain ⟨p, hp, rfl⟩ := List.mem_map.1 hu
  intro e
  rw [hv] at e
  exact lkP_none hl p.2 (by rw [← e]; exact hp)
 ·rcases hnew p hp with hp | e
  ·exact h.pos _ hp
  ·rw [e]; exact h0
 ·rcases hnew p hp with hp | e
  ·exact h.out _ hp hb'
  ·rw [e]; exact ⟨rfl, rfl⟩
 ·rcases hnew p hp with hp | e
  ·exact h.inn _ hp hb'
  ·rw [e] at hb'; cases hb'
 ·rcases h.own r row v hr hv with e | ⟨y, hy, hyb⟩
  ·exact .inl e
  ·exact .inr ⟨y, List.mem_append_left _ hy, hyb⟩
 ·rcases hnew p hp with hp | e
  ·exact h.iff _ hp hb' r row i hr hi
  ·rw [e] at hb'; cases hb'
 ·rcases hnew p hp with hp | e
  ·exact h.sts _ hp
  ·rw [e]; exact ⟨(by decide : (1 : Int) ≤ 1), (by decide : (1 : Int) ≤ 5)⟩
 ·rcases hnew p hp with hp | e
  ·exact h.szs _ hp
  ·rw [e]; exact hz
 ·rcases hnew p hp with hp | e
  ·exact h.asd _ hp
  ·rw [e]; exact ha
 ·rcases hnew p hp with hp | e
  ·exact h.top _ hp
  ·rw [e]; exact h9
theorem HInv.held {S : HZ} (h : HInv S) {c : Cl} (h0 : 0 ≤ c.order) (h9 : c.order ≤ 99) {z : Nat} (hcz : c.size = z) (hz : 1 ≤ z ∧ z ≤ 12) (ha : 0 ≤ c.at' ∧ c.at' ≤ 9999) (hl : lkP S.ords c.order = none) {r s : Nat} {row : List Int} (hr : S.seats[r]? = some row) (hs : s + z ≤ row.length) (hf : ∀ i, s ≤ i → i < s + z → row[i]? = some (-1)) :
  HInv ⟨S.seats.set r (fillR row s z c.order), S.ords ++ [(c.order, heldO c r s)], S.vain⟩ := by
 have hnew : ∀ p ∈ S.ords ++ [(c.order, heldO c r s)], p ∈ S.ords ∨ p = (c.order, heldO c r s) := fun p hp => by simpa using hp
 have hrl : r < S.seats.length := (List.getElem?_eq_some_iff.1 hr).1
 have hget : ∀ (k : Nat) (w : List Int), (S.seats.set r (fillR row s z c.order))[k]? = some w → (k = r ∧ w = fillR row s z c.order) ∨ (k ≠ r ∧ S.seats[k]? = some w) := fun k w hk => by
  rw [List.getElem?_set] at hk
  by_cases e : r = k
  ·rw [if_pos e, if_pos hrl] at hk; exact .inl ⟨e.symm, (Option.some.inj hk).symm⟩
  ·rw [if_neg e] at hk; exact .inr ⟨fun e' => e e'.symm, hk⟩
 have hno : ∀ (k : Nat) (w : List Int) (i : Nat), S.seats[k]? = some w → w[i]? ≠ some c.order := fun k w i hk e => by
  rcases h.own k w c.order hk (List.mem_of_getElem? e) with e' | ⟨x, hx, _⟩
  ·omega
  ·exact lkP_none hl x hx
 refine ⟨?_, fun p hp => ?_, fun p hp hb' => ?_, fun p hp hb' => ?_, fun k w v hk hv => ?_, fun p hp hb' k w i hk hi => ?_, fun p hp => ?_, fun p hp => ?_, fun p hp => ?_, fun p hp => ?_⟩
 ·show ((S.ords ++ [(c.order, heldO c r s)]).map Prod.fst).Nodup
  rw [List.map_append, List.nodup_append]
  refine ⟨h.nd, by simp, fun u hu v hv => ?_⟩
  simp at hv
  obtain ⟨p, hp, rfl⟩ := List.mem_map.1 hu
  intro e
  rw [hv] at e
  exact lkP_none hl p.2 (by rw [← e]; exact hp)
 ·rcases hnew p hp with hp | e
  ·exact h.pos _ hp
  ·rw [e]; exact h0
 ·rcases hnew p hp with hp | e
  ·exact h.out _ hp hb'
  ·rw [e] at hb'; cases hb'
 ·rcases hnew p hp with hp | e
  ·obtain ⟨r', s', z', row', e1, e2, e3, e4, e5⟩ := h.inn _ hp hb'
   by_cases hk : r = r'
   ·subst hk
    rw [hr] at e4; cases e4
    exact ⟨r, s', z', fillR row s z c.order, e1, e2, e3, by show (S.seats.set r _)[r]? = _; rw [List.getElem?_set_self hrl], by rw [fillR_len]; exact e5⟩
   ·exact ⟨r', s', z', row', e1, e2, e3, by show (S.seats.set r _)[r']? = _; rw [List.getElem?_set_ne hk]; exact e4, e5⟩
  ·rw [e]
   exact ⟨r, s, z, fillR row s z c.order, rfl, rfl, hcz, by show (S.seats.set r _)[r]? = _; rw [List.getElem?_set_self hrl], by rw [fillR_len]; exact hs⟩
 ·rcases hget k w hk with ⟨e1, e2⟩ | ⟨e1, e2⟩
  ·rw [e2] at hv
   obtain ⟨i, hi, hv'⟩ := List.getElem_of_mem hv
   have hv2 : (fillR row s z c.order)[i]? = some v := by rw [List.getElem?_eq_getElem hi, hv']
   rw [fillR_get row s c.order z i hs] at hv2
   by_cases hc : s ≤ i ∧ i < s + z
   ·rw [if_pos hc] at hv2
    exact .inr ⟨heldO c r s, by rw [← Option.some.inj hv2]; simp, rfl⟩
   ·rw [if_neg hc] at hv2
    rcases h.own r row v hr (List.mem_of_getElem? hv2) with e | ⟨y, hy, hyb⟩
    ·exact .inl e
    ·exact .inr ⟨y, List.mem_append_left _ hy, hyb⟩
  ·rcases h.own k w v e2 hv with e | ⟨y, hy, hyb⟩
   ·exact .inl e
   ·exact .inr ⟨y, List.mem_append_left _ hy, hyb⟩
 ·rcases hnew p hp with hp | e
  ·rcases hget k w hk with ⟨e1, e2⟩ | ⟨e1, e2⟩
   ·have hi' : i < row.length := by rw [e2, fillR_len] at hi; exact hi
    have hh := h.iff p hp hb' r row i hr hi'
    rw [e1, e2, ← hh, fillR_get row s c.order z i hs]
    have hne : p.1 ≠ c.order := fun e => lkP_none hl p.2 (by rw [← e]; exact hp)
    have hp0 := h.pos p hp
    by_cases hc : s ≤ i ∧ i < s + z
    ·rw [if_pos hc, hf i hc.1 hc.2]
     constructor
     ·intro e; exact absurd (Option.some.inj e).symm hne
     ·intro e; have := Option.some.inj e; omega
    ·rw [if_neg hc]
   ·exact h.iff p hp hb' k w i e2 hi
  ·rw [e]
   show _ ↔ ((r : Int) = k ∧ (s : Int) ≤ i ∧ (i : Int) < s + c.size)
   rcases hget k w hk with ⟨e1, e2⟩ | ⟨e1, e2⟩
   ·have hi' : i < row.length := by rw [e2, fillR_len] at hi; exact hi
    rw [e2, fillR_get row s c.order z i hs]
    by_cases hc : s ≤ i ∧ i < s + z
    ·rw [if_pos hc]
     exact ⟨fun _ => ⟨by omega, by omega, by omega⟩, fun _ => rfl⟩
    ·rw [if_neg hc]
     exact ⟨fun e' => absurd e' (hno r row i hr), fun e' => absurd ⟨by omega, by omega⟩ hc⟩
   ·exact ⟨fun e' => absurd e' (hno k w i e2), fun e' => absurd (by omega : k = r) e1⟩
 ·rcases hnew p hp with hp | e
  ·exact h.sts _ hp
  ·rw [e]; exact ⟨(by decide : (1 : Int) ≤ 2), (by decide : (2 : Int) ≤ 5)⟩
 ·rcases hnew p hp with hp | e
  ·exact h.szs _ hp
  ·rw [e]; show 1 ≤ c.size ∧ c.size ≤ 12; omega
 ·rcases hnew p hp with hp | e
  ·exact h.asd _ hp
  ·rw [e]; exact ha
 ·rcases hnew p hp with hp | e
  ·exact h.top _ hp
  ·rw [e]; exact h9
theorem plcR_free {row : List Int} : ∀ {z : Nat} {s : Int}, 0 ≤ s → plcR row z s = true → ∀ i : Nat, s ≤ i → (i : Int) < s + z → row[i]? = some (-1)
 | 0, s, _, _, i, h1, h2 => by omega
 | z + 1, s, h0, h, i, h1, h2 => by
  unfold plcR at h
  rw [Bool.and_eq_true] at h
  by_cases hi : s = i
  ·have hf := h.1
   unfold freeR at hf
   rw [Bool.and_eq_true, Bool.and_eq_true, decide_eq_true_eq, decide_eq_true_eq, beq_iff_eq] at hf
   have hlt : i < row.length := by omega
   rw [hi, Int.toNat_natCast, getD_lt hlt] at hf
   rw [List.getElem?_eq_getElem hlt, hf.2.2]
  ·exact plcR_free (by omega) h.2 i (by omega) (by omega)
theorem ids_get (seats : List (List Int)) (k : Nat) : (idsM seats)[k]? = seats[k]?.map fun r => (0, r) := by unfold idsM; rw [List.getElem?_map]
theorem bestS_mem {seats : List (List Int)} {z : Nat} {q : Nat × Nat} (h : bestS seats z = some q) : ∃ row, seats[q.1]? = some row ∧ q.2 + z ≤ row.length ∧ plcR row z (q.2 : Int) = true := by
 obtain ⟨p, _, h1, h2, h3⟩ := plcs_mem (bestM_mem h)
 rw [Nat.sub_zero, ids_get] at h1
 cases hs : seats[q.1]? with
 | none => rw [hs] at h1; cases h1
 | some row =>
  rw [hs] at h1
  cases h1
  exact ⟨row, rfl, h2, h3⟩
structure CV (c : Cl) : Prop where
 o0 : 0 ≤ c.order
 o1 : c.order ≤ 99
 i0 : 0 ≤ c.id
 i1 : c.id ≤ 99
 a0 : 0 ≤ c.at'
 a1 : c.at' ≤ 9999
 kd : (c.kind = 1 ∧ 1 ≤ c.size ∧ c.size ≤ 12) ∨ (c.kind = 2 ∧ c.size = 0) ∨ (c.kind = 3 ∧ c.size = 0)
theorem HInv.call {S : HZ} (h : HInv S) {c : Cl} (hc : CV c) : HInv (callM c S) := by
 unfold callM
 by_cases h1 : c.kind = 1
 ·rw [if_pos h1]
  have hsz : 1 ≤ c.size ∧ c.size ≤ 12 := by rcases hc.kd with h | h | h <;> omega
  unfold askM
  cases hl : lkP S.ords c.order with
  | some x => exact h
  | none =>
   dsimp only
   cases hb : bestS S.seats c.size.toNat with
   | none => exact h.refused hc.o0 hc.o1 hsz ⟨hc.a0, hc.a1⟩ hl
   | some q =>
    obtain ⟨row, hr, hs, hp⟩ := bestS_mem hb
    dsimp only
    unfold seatM
    rw [List.getD_eq_getElem?_getD, hr, Option.getD_some]
    exact h.held hc.o0 hc.o1 (z := c.size.toNat) (by omega) (by omega) ⟨hc.a0, hc.a1⟩ hl hr hs fun i a b => plcR_free (by omega) hp i (by omega) (by omega)
 rw [if_neg h1]
 by_cases h2 : c.kind = 2
 ·rw [if_pos h2]
  unfold payM
  cases hl : lkP S.ords c.order with
  | none => exact h.vain _
  | some x =>
   dsimp only
   by_cases hx : x.pc.st = 2
   ·rw [if_pos hx]; exact h.paid (lkP_mem hl) hx
   ·rw [if_neg hx]; exact h.vain _
 rw [if_neg h2]
 by_cases h3 : c.kind = 3
 ·rw [if_pos h3]
  unfold dropM
  cases hl : lkP S.ords c.order with
  | none => exact h
  | some x =>
   dsimp only
   by_cases hx : hasB x = true
   ·rw [if_pos hx]; exact h.killed (by decide) (by decide) (by decide)
   ·rw [if_neg hx]; exact h
 rw [if_neg h3]; exact h
theorem HInv.hear {S : HZ} (h : HInv S) {c : Cl} (hc : CV c) (hold : Int) : HInv (hearM hold S c) := (h.lapse hold _).call hc
theorem HInv.fold {hold : Int} : ∀ (l : List Cl) {S : HZ}, HInv S → (∀ c ∈ l, CV c) → HInv (l.foldl (hearM hold) S)
 | [], _, h, _ => h
 | c :: r, _, h, hc => HInv.fold r (h.hear (hc c (by simp)) hold) fun x hx => hc x (by simp [hx])
def emptyM (sizes : List Int) : HZ := ⟨sizes.map fun n => List.replicate n.toNat (-1), [], []⟩
theorem HInv.empty (sizes : List Int) : HInv (emptyM sizes) := by
 refine ⟨List.nodup_nil, fun p hp => (nomatch hp), fun p hp => (nomatch hp), fun p hp => (nomatch hp), fun r row v hr hv => ?_, fun p hp => (nomatch hp), fun p hp => (nomatch hp), fun p hp => (nomatch hp), fun p hp => (nomatch hp), fun p hp => (nomatch hp)⟩
 unfold emptyM at hr
 dsimp only at hr
 rw [List.getElem?_map] at hr
 cases hs : sizes[r]? with
 | none => rw [hs] at hr; cases hr
 | some n =>
  rw [hs] at hr
  cases hr
  exact .inl (List.eq_of_mem_replicate hv)
theorem find_nd {α : Type} (f : α → Nat) : ∀ {l : List α} {p : α}, p ∈ l → (l.map f).Nodup → l.find? (fun x => f x == f p) = some p
 | x :: r, p, h, hn => by
  rw [List.map_cons, List.nodup_cons] at hn
  rcases List.mem_cons.1 h with e | h
  ·rw [← e, List.find?_cons_of_pos (by simp)]
  ·rw [List.find?_cons_of_neg (by
    rw [beq_iff_eq]
    intro e
    exact hn.1 (List.mem_map.2 ⟨p, h, e.symm⟩))]
   exact find_nd f h hn.2
structure MI (bl : List Blk) (rows : List Rw) (ords : List Oe) (m : List Blk) : Prop where
 len : m.length = bl.length
 hr : ∀ p ∈ rows, m[p.1]? = some (.live (iL p.2) 1)
 ho : ∀ p ∈ ords, m[p.2.1]? = some (.live [encO p.2.2] 5)
 un : ∀ i, (∀ p ∈ rows, p.1 ≠ i) → (∀ p ∈ ords, p.2.1 ≠ i) → m[i]? = bl[i]?
theorem MI.uniq {bl : List Blk} {rows : List Rw} {ords : List Oe} {m m' : List Blk} (h : MI bl rows ords m) (h' : MI bl rows ords m') : m = m' := by
 apply List.ext_getElem?
 intro i
 by_cases hr : ∃ p ∈ rows, p.1 = i
 ·obtain ⟨p, hp, rfl⟩ := hr
  rw [h.hr p hp, h'.hr p hp]
 by_cases ho : ∃ p ∈ ords, p.2.1 = i
 ·obtain ⟨p, hp, rfl⟩ := ho
  rw [h.ho p hp, h'.ho p hp]
 rw [h.un i (fun p hp e => hr ⟨p, hp, e⟩) (fun p hp e => ho ⟨p, hp, e⟩), h'.un i (fun p hp e => hr ⟨p, hp, e⟩) (fun p hp e => ho ⟨p, hp, e⟩)]
def mkF (bl : List Blk) (rows : List Rw) (ords : List Oe) : List Blk := bl.mapIdx fun i B => match rows.find? (fun x => x.1 == i) with
 | some p => .live (iL p.2) 1
 | none => match ords.find? (fun x => x.2.1 == i) with
  | some p => .live [encO p.2.2] 5
  | none => B
theorem mkF_MI {bl : List Blk} {rows : List Rw} {ords : List Oe} (h1 : (rows.map Prod.fst).Nodup) (h2 : (ords.map fun p => p.2.1).Nodup) (h3 : ∀ p ∈ rows, ∀ q ∈ ords, p.1 ≠ q.2.1) (h4 : ∀ p ∈ rows, p.1 < bl.length) (h5 : ∀ p ∈ ords, p.2.1 < bl.length) : MI bl rows ords (mkF bl rows ords) := by
 refine ⟨by unfold mkF; simp, fun p hp => ?_, fun p hp => ?_, fun i hr ho => ?_⟩
 ·unfold mkF
  rw [List.getElem?_mapIdx, List.getElem?_eq_getElem (h4 p hp), Option.map_some, find_nd Prod.fst hp h1]
 ·unfold mkF
  rw [List.getElem?_mapIdx, List.getElem?_eq_getElem (h5 p hp), Option.map_some, List.find?_eq_none.2 (fun x hx => by
   rw [beq_iff_eq]; exact h3 x hx p hp)]
  dsimp only
  rw [find_nd (fun x : Oe => x.2.1) hp h2]
 ·unfold mkF
  rw [List.getElem?_mapIdx, List.find?_eq_none.2 (fun x hx => by rw [beq_iff_eq]; exact hr x hx), List.find?_eq_none.2 (fun x hx => by rw [beq_iff_eq]; exact ho x hx)]
  cases bl[i]? <;> rfl
theorem pair_ext : ∀ {l l' : List Rw}, l.map Prod.fst = l'.map Prod.fst → l.map Prod.snd = l'.map Prod.snd → l = l'
 | [], [], _, _ => rfl
 | [], _ :: _, h, _ => by cases h
 | _ :: _, [], h, _ => by cases h
 | p :: l, p' :: l', h1, h2 => by
  rw [List.map_cons, List.map_cons] at h1 h2
  injection h1 with a1 b1
  injection h2 with a2 b2
  rw [pair_ext b1 b2, Prod.ext a1 a2]
def stO (ords : List Oe) : List (Int × Od) := ords.map fun p => (p.1, p.2.2)
def stH (rows : List Rw) (ords : List Oe) (vain : List Int) : HZ := ⟨rows.map Prod.snd, stO ords, vain⟩
def rowsD (q : Int → Bool) (rows : List Rw) : List Rw := rows.map fun p => (p.1, offR q p.2)
def ordsD (q : Int → Bool) (ords : List Oe) : List Oe := ords.map fun p => if q p.1 = true then (p.1, p.2.1, outO p.2.2 4) else p
theorem rowsD_fst (q : Int → Bool) (rows : List Rw) : (rowsD q rows).map Prod.fst = rows.map Prod.fst := by
 unfold rowsD; rw [List.map_map]; rfl
theorem ordsD_blk (q : Int → Bool) (ords : List Oe) : (ordsD q ords).map (fun p => p.2.1) = ords.map fun p => p.2.1 := by
 unfold ordsD
 rw [List.map_map]
 apply List.map_congr_left
 intro p _
 simp only [Function.comp]
 split <;> rfl
theorem ordsD_kv (q : Int → Bool) (ords : List Oe) : (ordsD q ords).map kvO = ords.map kvO := by
 unfold ordsD
 rw [List.map_map]
 apply List.map_congr_left
 intro p _
 simp only [Function.comp]
 split <;> rfl
theorem stH_D (q : Int → Bool) (rows : List Rw) (ords : List Oe) (vain : List Int) : stH (rowsD q rows) (ordsD q ords) vain = killM q 4 (stH rows ords vain) := by
 unfold stH killM
 congr 1
 ·unfold rowsD offM; rw [List.map_map, List.map_map]; rfl
 ·unfold stO ordsD
  rw [List.map_map, List.map_map]
  apply List.map_congr_left
  intro p _
  simp only [Function.comp]
  split <;> rfl
def qd (hold m : Int) (d : List Oe) (v : Int) : Bool := d.any fun p => p.1 == v && lapB hold m p.2.2
theorem qd_snoc (hold m : Int) (d : List Oe) (p : Oe) (v : Int) : qd hold m (d ++ [p]) v = (qd hold m d v || (p.1 == v && lapB hold m p.2.2)) := by
 unfold qd; rw [List.any_append]; simp
theorem qd_perm {hold m : Int} {d d' : List Oe} (h : d.Perm d') : qd hold m d = qd hold m d' := funext fun v => by
 unfold qd; exact h.any_eq
theorem keys_stO (ords : List Oe) : (stO ords).map Prod.fst = ords.map fun p => p.1 := by unfold stO; rw [List.map_map]; rfl
theorem mem_nodup_key {l : List Oe} (h : (l.map fun p => p.1).Nodup) {p q : Oe} (hp : p ∈ l) (hq : q ∈ l) (e : p.1 = q.1) : p = q := by
 induction l with
 | nil => cases hp
 | cons x r ih =>
  rw [List.map_cons, List.nodup_cons] at h
  rcases List.mem_cons.1 hp with e1 | e1 <;> rcases List.mem_cons.1 hq with e2 | e2
  ·rw [e1, e2]
  ·exact absurd (List.mem_map.2 ⟨q, e2, by rw [← e, e1]⟩) h.1
  ·exact absurd (List.mem_map.2 ⟨p, e1, by rw [e, e2]⟩) h.1
  ·exact ih h.2 e1 e2
theorem qd_all {hold m : Int} {rows : List Rw} {ords : List Oe} {vain : List Int} (h : HInv (stH rows ords vain)) : qd hold m ords = lapP hold m (stO ords) := funext fun v => by
 have hnd : ((stO ords).map Prod.fst).Nodup := h.nd
 unfold qd lapP
 cases hl : lkP (stO ords) v with
 | some x =>
  dsimp only
  have hm := lkP_mem hl
  obtain ⟨p, hp, e⟩ := List.mem_map.1 hm
  rw [Bool.eq_iff_iff, List.any_eq_true]
  constructor
  ·rintro ⟨p', hp', e'⟩
   rw [Bool.and_eq_true, beq_iff_eq] at e'
   have h3 : (v, p'.2.2) ∈ stO ords := by rw [← e'.1]; exact List.mem_map.2 ⟨p', hp', rfl⟩
   rw [mem_key hnd hm h3]; exact e'.2
  ·intro hx
   cases e
   exact ⟨p, hp, by rw [hx]; simp⟩
 | none =>
  dsimp only
  rw [List.any_eq_false]
  intro p hp e
  rw [Bool.and_eq_true, beq_iff_eq] at e
  exact lkP_none hl p.2.2 (by rw [← e.1]; exact List.mem_map.2 ⟨p, hp, rfl⟩)
theorem lapse_step {hold m : Int} {rows : List Rw} {ords d : List Oe} {vain : List Int} (h : HInv (stH rows ords vain)) (hno : (ords.map fun p => p.2.1).Nodup) (hd : ∀ p ∈ d, p ∈ ords) {n : Int} {b : Nat} {x : Od} (hx : (n, b, x) ∈ ords) (hxd : ∀ p ∈ d, p.1 ≠ n) (hl : lapB hold m x = true) :
  ∃ (r s z : Nat) (q : Rw), x.pc.row = r ∧ x.pc.seat = s ∧ x.pc.size = z ∧ (rowsD (qd hold m d) rows)[r]? = some q ∧ s + z ≤ q.2.length ∧
   rowsD (qd hold m (d ++ [(n, b, x)])) rows = (rowsD (qd hold m d) rows).set r (q.1, fillR q.2 s z (-1)) ∧ ordsD (qd hold m (d ++ [(n, b, x)])) ords = updO (ordsD (qd hold m d) ords) b (outO x 4) := by
 have hnd : (ords.map fun p => p.1).Nodup := by rw [← keys_stO]; exact h.nd
 have hb : hasB x = true := by
  unfold lapB at hl; unfold hasB
  rw [Bool.and_eq_true] at hl
  rw [hl.1]; rfl
 have hqn : qd hold m d n = false := by
  unfold qd
  rw [List.any_eq_false]
  intro p hp e
  rw [Bool.and_eq_true, beq_iff_eq] at e
  exact hxd p hp e.1
 have hS : HInv (stH (rowsD (qd hold m d) rows) (ordsD (qd hold m d) ords) vain) := by
  rw [stH_D]
  exact h.killed (by decide) (by decide) (by decide)
 have hxD : (n, b, x) ∈ ordsD (qd hold m d) ords := List.mem_map.2 ⟨_, hx, by rw [if_neg (by rw [hqn]; decide)]⟩
 have hxS : (n, x) ∈ (stH (rowsD (qd hold m d) rows) (ordsD (qd hold m d) ords) vain).ords := List.mem_map.2 ⟨_, hxD, rfl⟩
 obtain ⟨r, s, z, row, e1, e2, e3, e4, e5⟩ := hS.inn _ hxS hb
 have hfo := hS.fill_off hxS hb e1 e2 e3 e4 e5
 have hq : qd hold m (d ++ [(n, b, x)]) = fun v => qd hold m d v || (v == n) := funext fun v => by
  rw [qd_snoc, hl, Bool.and_true]
  congr 1
  rw [Bool.eq_iff_iff, beq_iff_eq, beq_iff_eq]; exact eq_comm
 change ((rowsD (qd hold m d) rows).map Prod.snd)[r]? = some row at e4
 rw [List.getElem?_map] at e4
 cases hg : (rowsD (qd hold m d) rows)[r]? with
 | none => rw [hg] at e4; cases e4
 | some q =>
  rw [hg, Option.map_some] at e4
  cases e4
  refine ⟨r, s, z, q, e1, e2, e3, hg, e5, ?_, ?_⟩
  ·have hset : ((rowsD (qd hold m d) rows).set r (q.1, fillR q.2 s z (-1))).map Prod.fst = (rowsD (qd hold m d) rows).map Prod.fst := by
    rw [List.map_set]
    apply set_same'
    rw [List.getElem?_map, hg]; rfl
   apply pair_ext
   ·rw [hset, rowsD_fst, rowsD_fst]
   ·rw [List.map_set]
    change _ = (List.map Prod.snd (rowsD (qd hold m d) rows)).set r (fillR q.2 s z (-1))
    change (List.map Prod.snd (rowsD (qd hold m d) rows)).set r (fillR q.2 s z (-1)) = offM (· == n) (List.map Prod.snd (rowsD (qd hold m d) rows)) at hfo
    rw [hfo]
    unfold rowsD offM
    rw [List.map_map, List.map_map, List.map_map]
    apply List.map_congr_left
    intro p _
    simp only [Function.comp]
    rw [offR_offR, hq]
  ·unfold ordsD updO
   rw [List.map_map]
   apply List.map_congr_left
   intro p hp
   simp only [Function.comp]
   by_cases hpb : p.2.1 = b
   ·have hpe : p = (n, b, x) := by
     have h1 := find_nd (fun x : Oe => x.2.1) hp hno
     have h2 := find_nd (fun x : Oe => x.2.1) hx hno
     dsimp only at h1 h2
     rw [hpb, h2] at h1
     exact (Option.some.inj h1).symm
    subst hpe
    dsimp only
    rw [if_pos (by rw [hq]; simp), hqn]
    simp
   ·have hpn : p.1 ≠ n := fun e => hpb (by rw [mem_nodup_key hnd hp hx e])
    have hqq : qd hold m (d ++ [(n, b, x)]) p.1 = qd hold m d p.1 := by
     rw [hq]
     dsimp only
     rw [show (p.1 == n) = false from beq_eq_false_iff_ne.2 hpn, Bool.or_false]
    rw [hqq]
    by_cases hc : qd hold m d p.1 = true
    ·rw [if_pos hc, if_neg hpb]
    ·rw [if_neg hc, if_neg hpb]
theorem lapse_skip {hold m : Int} {d : List Oe} {n : Int} {b : Nat} {x : Od} (hl : lapB hold m x = false) : qd hold m (d ++ [(n, b, x)]) = qd hold m d := funext fun v => by
 rw [qd_snoc, hl, Bool.and_false, Bool.or_false]
end Go.Ab.T
end
