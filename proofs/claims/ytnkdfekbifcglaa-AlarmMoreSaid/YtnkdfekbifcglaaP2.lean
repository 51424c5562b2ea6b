/-
  A part of the proofs over this seat.
  (The texts KrM2 KrK2 KrK3, one behind the other.)
-/
import Derived.Test.YtnkdfekbifcglaaP1
set_option linter.unusedSimpArgs false
set_option linter.unusedVariables false
set_option linter.unusedSectionVars false
section
namespace Go.Ab.T
/-! ### A house over time -/
def ndI (T r m : Int) : Int := if r = -1 then 1 else 2 + r * (T + 1) + m
def nN (h : Ho) (T : Int) : Int := 2 + h.p.length * (T + 1)
def startA (h : Ho) (T : Int) (r : Nat) : Arc := ⟨-1 - r, -1, 0, ndI T r 0, (h.p[r]?).getD 0⟩
def stayA (h : Ho) (T : Int) (r m : Nat) : Arc := ⟨-1 - r, m, ndI T r m, ndI T r (m + 1), allP h⟩
def passA (T : Int) (i : Nat) (q : Pas) (m : Nat) : Arc := ⟨i, m, ndI T q.fr m, ndI T q.to (m + q.wk), q.wd⟩
def nM (T : Int) (q : Pas) : Nat := (T - q.wk + 1).toNat
def roomA (h : Ho) (T : Int) (r : Nat) : List Arc := startA h T r :: (List.range T.toNat).map (stayA h T r)
def passL (T : Int) (i : Nat) (q : Pas) : List Arc := (List.range (nM T q)).map (passA T i q)
def passO (h : Ho) (T : Int) (i : Nat) : List Arc := match h.s[i]? with | some q => passL T i q | none => []
def roomsE (h : Ho) (T : Int) (k : Nat) : List Arc := (List.range k).flatMap (roomA h T)
def passE (h : Ho) (T : Int) (k : Nat) : List Arc := (List.range k).flatMap (passO h T)
def net (h : Ho) (T : Int) : List Arc := roomsE h T h.p.length ++ passE h T h.s.length
theorem range_snoc (k : Nat) : List.range (k + 1) = List.range k ++ [k] := List.range_succ
theorem roomsE_succ (h : Ho) (T : Int) (k : Nat) : roomsE h T (k + 1) = roomsE h T k ++ roomA h T k := by
  unfold roomsE; rw [range_snoc, List.flatMap_append]; simp
theorem passE_succ (h : Ho) (T : Int) (k : Nat) : passE h T (k + 1) = passE h T k ++ passO h T k := by
  unfold passE; rw [range_snoc, List.flatMap_append]; simp
theorem roomsE_len (h : Ho) (T : Int) : ∀ k, (roomsE h T k).length = k * (T.toNat + 1)
  | 0 => by simp [roomsE]
  | k + 1 => by rw [roomsE_succ, List.length_append, roomsE_len h T k, Nat.add_mul]; simp [roomA]
theorem passE_len (h : Ho) {T : Int} (hT : T ≤ 60) (hk : ∀ q ∈ h.s, 1 ≤ q.wk) : ∀ k, (passE h T k).length ≤ k * 60
  | 0 => by simp [passE]
  | k + 1 => by
    rw [passE_succ, List.length_append]
    have := passE_len h hT hk k
    have : (passO h T k).length ≤ 60 := by
      unfold passO
      split
      · rename_i q hq
        have := hk q (List.mem_of_getElem? hq)
        simp only [passL, List.length_map, List.length_range, nM]; omega
      · simp
    omega
theorem nd_out (T m : Int) : ndI T (-1) m = 1 := by unfold ndI; simp
theorem nd_in {T r m : Int} (h : 0 ≤ r) : ndI T r m = 2 + r * (T + 1) + m := by unfold ndI; rw [if_neg (by omega)]
theorem mul_up {a b c : Int} (h : a + 1 ≤ b) (hc : 0 ≤ c) : a * c + c ≤ b * c := by
  have := Int.mul_le_mul_of_nonneg_right h hc
  rw [Int.add_mul, Int.one_mul] at this; exact this
theorem nd_bd {h : Ho} {T r m : Int} (hT : 0 ≤ T) (h0 : 0 ≤ r) (h1 : r < h.p.length) (m0 : 0 ≤ m) (m1 : m ≤ T) : 2 ≤ ndI T r m ∧ ndI T r m < nN h T := by
  rw [nd_in h0]
  unfold nN
  have := mul_up (a := r) (b := h.p.length) (c := T + 1) (by omega) (by omega)
  have := Int.mul_nonneg h0 (show 0 ≤ T + 1 by omega)
  omega
theorem nd_inj {T r m r' m' : Int} (hT : 0 ≤ T) (h0 : 0 ≤ r) (h0' : 0 ≤ r') (m0 : 0 ≤ m) (m1 : m ≤ T) (m0' : 0 ≤ m') (m1' : m' ≤ T) (e : ndI T r m = ndI T r' m') : r = r' ∧ m = m' := by
  rw [nd_in h0, nd_in h0'] at e
  have : r = r' := by
    rcases Int.lt_trichotomy r r' with h | h | h
    · have := mul_up (a := r) (b := r') (c := T + 1) (by omega) (by omega); omega
    · exact h
    · have := mul_up (a := r') (b := r) (c := T + 1) (by omega) (by omega); omega
  subst this
  exact ⟨rfl, by omega⟩
/-- What all arcs keep. -/
structure ArcOK (N : Int) (a : Arc) : Prop where
  a0 : 0 ≤ a.a
  a1 : a.a < N
  b0 : 0 ≤ a.b
  b1 : a.b < N
  ne : a.a ≠ a.b
  an : a.a ≠ 1
  bn : a.b ≠ 0
  w0 : 0 ≤ a.w
  w1 : a.w ≤ 1000
theorem all_nn {h : Ho} (hV : HV h) : 0 ≤ allP h ∧ allP h ≤ 600 := by
  have : ∀ l : List Int, (∀ x ∈ l, 0 ≤ x ∧ x ≤ 99) → 0 ≤ l.sum ∧ l.sum ≤ 99 * l.length := by
    intro l
    induction l with
    | nil => intro _; simp
    | cons a r ih =>
      intro h
      have h1 := h a (by simp)
      have h2 := ih fun x hx => h x (by simp [hx])
      simp only [List.sum_cons, List.length_cons]
      push_cast
      omega
  have h1 := this h.p hV.pe
  have := hV.n6
  unfold allP
  omega
theorem nM_lt {T : Int} {q : Pas} {m : Nat} (hk : 1 ≤ q.wk) (h : m < nM T q) : (m : Int) + q.wk ≤ T := by unfold nM at h; omega
theorem startA_ok {h : Ho} (hV : HV h) {T : Int} (hT : 0 ≤ T) {r : Nat} (hr : r < h.p.length) : ArcOK (nN h T) (startA h T r) := by
  have hb := nd_bd (h := h) (T := T) (r := r) (m := 0) hT (by omega) (by omega) (by omega) hT
  have he := hV.pe _ (List.mem_of_getElem? (List.getElem?_eq_getElem hr))
  have hv : (h.p[r]?).getD 0 = h.p[r] := by rw [List.getElem?_eq_getElem hr]; rfl
  refine ⟨?_, ?_, ?_, ?_, ?_, ?_, ?_, ?_, ?_⟩ <;> simp only [startA] <;> first | omega | (rw [hv]; omega)
theorem stayA_ok {h : Ho} (hV : HV h) {T : Int} (hT : 0 ≤ T) {r m : Nat} (hr : r < h.p.length) (hm : m < T.toNat) : ArcOK (nN h T) (stayA h T r m) := by
  have hb := nd_bd (h := h) (T := T) (r := r) (m := m) hT (by omega) (by omega) (by omega) (by omega)
  have hb' := nd_bd (h := h) (T := T) (r := r) (m := m + 1) hT (by omega) (by omega) (by omega) (by omega)
  have hne : ndI T r m ≠ ndI T r (m + 1) := fun e => by have := (nd_inj hT (by omega) (by omega) (by omega) (by omega) (by omega) (by omega) e).2; omega
  have ha := all_nn hV
  refine ⟨?_, ?_, ?_, ?_, hne, ?_, ?_, ?_, ?_⟩ <;> simp only [stayA] <;> omega
theorem passA_ok {h : Ho} (hV : HV h) {T : Int} (hT : 0 ≤ T) {i : Nat} {q : Pas} (hq : q ∈ h.s) {m : Nat} (hm : m < nM T q) : ArcOK (nN h T) (passA T i q m) := by
  have hq := hV.sv q hq
  have hmw := nM_lt hq.k0 hm
  have := hq.k0
  have hb := nd_bd (h := h) (T := T) (r := q.fr) (m := m) hT hq.f0 hq.f1 (by omega) (by omega)
  have w0 := hq.w0
  have w1 := hq.w1
  have hto : 1 ≤ ndI T q.to (m + q.wk) ∧ ndI T q.to (m + q.wk) < nN h T ∧ ndI T q.fr m ≠ ndI T q.to (m + q.wk) := by
    by_cases ht : q.to = -1
    · rw [ht, nd_out]; refine ⟨by omega, ?_, by omega⟩
      omega
    · have ht0 : 0 ≤ q.to := by have := hq.t0; omega
      have hb' := nd_bd (h := h) (T := T) (r := q.to) (m := m + q.wk) hT ht0 hq.t1 (by omega) (by omega)
      refine ⟨by omega, by omega, fun e => ?_⟩
      exact hq.ne (nd_inj hT hq.f0 ht0 (by omega) (by omega) (by omega) (by omega) e).1
  refine ⟨?_, ?_, ?_, ?_, hto.2.2, ?_, ?_, ?_, ?_⟩ <;> simp only [passA] <;> omega
theorem mem_net {h : Ho} {T : Int} {a : Arc} : a ∈ net h T ↔ (∃ r, r < h.p.length ∧ (a = startA h T r ∨ ∃ m, m < T.toNat ∧ a = stayA h T r m)) ∨ ∃ i q m, h.s[i]? = some q ∧ m < nM T q ∧ a = passA T i q m := by
  unfold net roomsE passE
  simp only [List.mem_append, List.mem_flatMap, List.mem_range, roomA, List.mem_cons, List.mem_map]
  constructor
  · rintro (⟨r, hr, h1 | ⟨m, hm, rfl⟩⟩ | ⟨i, hi, h1⟩)
    · exact .inl ⟨r, hr, .inl h1⟩
    · exact .inl ⟨r, hr, .inr ⟨m, hm, rfl⟩⟩
    · unfold passO at h1
      split at h1
      · rename_i q hq
        simp only [passL, List.mem_map, List.mem_range] at h1
        obtain ⟨m, hm, rfl⟩ := h1
        exact .inr ⟨i, q, m, hq, hm, rfl⟩
      · simp at h1
  · rintro (⟨r, hr, h1 | ⟨m, hm, rfl⟩⟩ | ⟨i, q, m, hq, hm, rfl⟩)
    · exact .inl ⟨r, hr, .inl h1⟩
    · exact .inl ⟨r, hr, .inr ⟨m, hm, rfl⟩⟩
    · refine .inr ⟨i, (List.getElem?_eq_some_iff.1 hq).1, ?_⟩
      unfold passO
      rw [hq]
      simp only [passL, List.mem_map, List.mem_range]
      exact ⟨m, hm, rfl⟩
theorem net_ok {h : Ho} (hV : HV h) {T : Int} (hT : 0 ≤ T) {a : Arc} (ha : a ∈ net h T) : ArcOK (nN h T) a := by
  rcases mem_net.1 ha with ⟨r, hr, rfl | ⟨m, hm, rfl⟩⟩ | ⟨i, q, m, hq, hm, rfl⟩
  · exact startA_ok hV hT hr
  · exact stayA_ok hV hT hr hm
  · exact passA_ok hV hT (List.mem_of_getElem? hq) hm
theorem net_KD (h : Ho) (T : Int) : KD (net h T) := by
  unfold KD net roomsE passE
  rw [List.pairwise_append]
  refine ⟨?_, ?_, ?_⟩
  · rw [List.pairwise_flatMap]
    refine ⟨fun r _ => ?_, ?_⟩
    · unfold roomA
      rw [List.pairwise_cons]
      refine ⟨fun a ha e => ?_, ?_⟩
      · obtain ⟨m, _, rfl⟩ := List.mem_map.1 ha
        have := congrArg Prod.snd e
        simp only [Arc.key, startA, stayA] at this
        omega
      · rw [List.pairwise_map]
        refine List.pairwise_lt_range.imp fun {m m'} hlt e => ?_
        have := congrArg Prod.snd e
        simp only [Arc.key, stayA] at this
        omega
    · refine List.pairwise_lt_range.imp fun {r r'} hlt x hx y hy e => ?_
      have h1 : ∀ {r : Nat} {a : Arc}, a ∈ roomA h T r → a.key.1 = -1 - (r : Int) := fun ha => by
        unfold roomA at ha
        rcases List.mem_cons.1 ha with rfl | ha
        · rfl
        · obtain ⟨m, _, rfl⟩ := List.mem_map.1 ha; rfl
      have := congrArg Prod.fst e
      rw [h1 hx, h1 hy] at this
      omega
  · rw [List.pairwise_flatMap]
    refine ⟨fun i _ => ?_, ?_⟩
    · unfold passO
      split
      · unfold passL
        rw [List.pairwise_map]
        refine List.pairwise_lt_range.imp fun {m m'} hlt e => ?_
        have := congrArg Prod.snd e
        simp only [Arc.key, passA] at this
        omega
      · exact List.Pairwise.nil
    · refine List.pairwise_lt_range.imp fun {i i'} hlt x hx y hy e => ?_
      have h1 : ∀ {i : Nat} {a : Arc}, a ∈ passO h T i → a.key.1 = (i : Int) := fun ha => by
        unfold passO at ha
        split at ha
        · obtain ⟨m, _, rfl⟩ := List.mem_map.1 ha; rfl
        · simp at ha
      have := congrArg Prod.fst e
      rw [h1 hx, h1 hy] at this
      omega
  · intro x hx y hy e
    obtain ⟨r, _, hx⟩ := List.mem_flatMap.1 hx
    obtain ⟨i, _, hy⟩ := List.mem_flatMap.1 hy
    have h1 : x.key.1 = -1 - (r : Int) := by
      unfold roomA at hx
      rcases List.mem_cons.1 hx with rfl | hx
      · rfl
      · obtain ⟨m, _, rfl⟩ := List.mem_map.1 hx; rfl
    have h2 : y.key.1 = (i : Int) := by
      unfold passO at hy
      split at hy
      · obtain ⟨m, _, rfl⟩ := List.mem_map.1 hy; rfl
      · simp at hy
    rw [e, h2] at h1
    omega
def adj (E : List Arc) (v : Nat) : List Arc := E.filter fun a => a.a == (v : Int) || a.b == (v : Int)
theorem adj_snoc (E : List Arc) (a : Arc) (v : Nat) : adj (E ++ [a]) v = adj E v ++ (if a.a = v ∨ a.b = v then [a] else []) := by
  unfold adj
  rw [List.filter_append]
  congr 1
  by_cases h : a.a = v ∨ a.b = v
  · rw [if_pos h, List.filter_cons_of_pos (by simpa using h)]; rfl
  · rw [if_neg h, List.filter_cons_of_neg (by simpa using h)]; rfl
theorem adj_len (E : List Arc) (v : Nat) : (adj E v).length ≤ E.length := List.length_filter_le _ _
theorem mem_adj {E : List Arc} {v : Nat} {a : Arc} : a ∈ adj E v ↔ a ∈ E ∧ a.at' v := by
  unfold adj Arc.at'; simp
end Go.Ab.T
end

section
namespace Go.Ab.T
set_option maxRecDepth 8000
set_option maxHeartbeats 1000000
/-! ### How many use a passage in a minute: a map, its entries in their keys' order -/
def lt2 (a b : K2) : Bool := decide (a.1 < b.1) || (a.1 == b.1 && decide (a.2 < b.2))
theorem lt2_iff {a b : K2} : lt2 a b = true ↔ a.1 < b.1 ∨ (a.1 = b.1 ∧ a.2 < b.2) := by unfold lt2; simp
theorem lt2_irrefl (a : K2) : lt2 a a = false := by
  cases h : lt2 a a with
  | false => rfl
  | true => rw [lt2_iff] at h; omega
theorem lt2_trans {a b c : K2} (h1 : lt2 a b = true) (h2 : lt2 b c = true) : lt2 a c = true := by
  rw [lt2_iff] at *; omega
theorem lt2_tri {a b : K2} (h1 : lt2 a b = false) (h2 : a ≠ b) : lt2 b a = true := by
  rw [lt2_iff]
  have h3 : ¬(a.1 < b.1 ∨ (a.1 = b.1 ∧ a.2 < b.2)) := fun h => by rw [← lt2_iff, h1] at h; cases h
  have h4 : ¬(a.1 = b.1 ∧ a.2 = b.2) := fun ⟨p, q⟩ => h2 (Prod.ext p q)
  omega
abbrev UM := List (K2 × Int)
def Srt (w : UM) : Prop := w.Pairwise fun a b => lt2 a.1 b.1 = true
def lk : UM → US
  | [], _ => 0
  | p :: r, k => if k = p.1 then p.2 else lk r k
def wput (k : K2) (m : Int) : UM → UM
  | [] => [(k, m)]
  | p :: r => if k = p.1 then (k, m) :: r else if lt2 k p.1 = true then (k, m) :: p :: r else p :: wput k m r
theorem lk_wput (w : UM) (k : K2) (m : Int) (j : K2) : lk (wput k m w) j = if j = k then m else lk w j := by
  induction w with
  | nil => simp only [wput, lk]
  | cons p r ih =>
    simp only [wput]
    by_cases h : k = p.1
    · rw [if_pos h]
      simp only [lk]
      by_cases hj : j = k
      · rw [if_pos hj, if_pos hj]
      · rw [if_neg hj, if_neg hj, if_neg (by rw [← h]; exact hj)]
    · rw [if_neg h]
      split
      · simp only [lk]
      · simp only [lk, ih]
        by_cases hj : j = k
        · rw [if_pos hj, if_pos hj, if_neg (by rw [hj]; exact h)]
        · rw [if_neg hj, if_neg hj]
theorem wput_mem {w : UM} {k : K2} {m : Int} {p : K2 × Int} (h : p ∈ wput k m w) : p = (k, m) ∨ p ∈ w := by
  induction w with
  | nil => simp only [wput, List.mem_singleton] at h; exact .inl h
  | cons q r ih =>
    simp only [wput] at h
    split at h
    · rcases List.mem_cons.1 h with h | h
      · exact .inl h
      · exact .inr (List.mem_cons_of_mem _ h)
    · split at h
      · rcases List.mem_cons.1 h with h | h
        · exact .inl h
        · exact .inr h
      · rcases List.mem_cons.1 h with h | h
        · exact .inr (by rw [h]; simp)
        · exact (ih h).imp id fun h => List.mem_cons_of_mem _ h
theorem wput_srt {w : UM} (hs : Srt w) (k : K2) (m : Int) : Srt (wput k m w) := by
  induction w with
  | nil => simp only [wput]; exact List.pairwise_singleton _ _
  | cons p r ih =>
    obtain ⟨h1, h2⟩ := List.pairwise_cons.1 hs
    simp only [wput]
    split
    · rename_i h
      subst h
      exact List.pairwise_cons.2 ⟨h1, h2⟩
    · rename_i hne
      split
      · rename_i hlt
        refine List.pairwise_cons.2 ⟨fun q hq => ?_, hs⟩
        rcases List.mem_cons.1 hq with rfl | hq
        · exact hlt
        · exact lt2_trans hlt (h1 q hq)
      · rename_i hlt
        refine List.pairwise_cons.2 ⟨fun q hq => ?_, ih h2⟩
        rcases wput_mem hq with rfl | hq
        · exact lt2_tri (by simpa using hlt) hne
        · exact h1 q hq
def encK (k : K2) : AV := .agg [I64 k.1, I64 k.2]
theorem KCells (k : K2) : (encK k).cells = [I64 k.1, I64 k.2] := rfl
theorem KEta (a b : Int) : AV.agg [I64 a, I64 b] = encK (a, b) := rfl
def kvU (p : K2 × Int) : AV × AV := (encK p.1, I64 p.2)
def encU (w : UM) : List (AV × AV) := w.map kvU
theorem keqU (a b : K2) : keq (.n 2) (encK a) (encK b) = some (decide (a = b)) := by
  show some ((a.1 == b.1) && ((a.2 == b.2) && true)) = _
  congr 1
  rw [Bool.eq_iff_iff]
  simp only [Bool.and_eq_true, beq_iff_eq, and_true, decide_eq_true_eq]
  exact ⟨fun ⟨h1, h2⟩ => Prod.ext h1 h2, fun h => by subst h; exact ⟨rfl, rfl⟩⟩
theorem isKeyU (t : K2) : isKey (.n 2) (encK t) = true := rfl
theorem sameN2 : EK.same (.n 2) (.n 2) = true := rfl
theorem kltU (a b : K2) : klt (encK a) (encK b) = lt2 a b := by
  show (decide (a.1 < b.1) || (a.1 == b.1 && (decide (a.2 < b.2) || (a.2 == b.2 && false)))) = _
  rw [Bool.and_false, Bool.or_false]; rfl
theorem aloneU {w : UM} {k : K2} (h : ∀ p ∈ w, k ≠ p.1) : EK.alone (encK k) (encU w) (.n 2) = true := by
  show (encU w).all (fun q => keq (.n 2) (encK k) q.1 == some false) = true
  rw [List.all_eq_true]
  intro q hq
  obtain ⟨p, hp, rfl⟩ := List.mem_map.1 hq
  show (keq (.n 2) (encK k) (encK p.1) == some false) = true
  rw [keqU, decide_eq_false (h p hp)]; rfl
theorem lk_mem : ∀ {w : UM} {k : K2}, (∀ p ∈ w, k ≠ p.1) → lk w k = 0
  | [], _, _ => rfl
  | p :: r, k, h => by
    simp only [lk, if_neg (h p (by simp))]
    exact lk_mem fun q hq => h q (by simp [hq])
theorem mfindU : ∀ {w : UM}, Srt w → ∀ (k : K2) (i : Nat), ∃ r, mfind (.n 2) (encK k) (encU w) i = some r ∧ (match r with
    | none => lk w k = 0 ∧ ∀ m, mins (encK k) (I64 m) (encU w) = encU (wput k m w)
    | some (j, v) => i ≤ j ∧ v = I64 (lk w k) ∧ (∃ p ∈ w, p.1 = k) ∧ ∀ m, (encU w).set (j - i) (encK k, I64 m) = encU (wput k m w))
  | [], _, k, i => ⟨none, rfl, rfl, fun _ => rfl⟩
  | p :: r, hs, k, i => by
    obtain ⟨h1, h2⟩ := List.pairwise_cons.1 hs
    by_cases h : k = p.1
    · have ha : EK.alone (encK k) (encU r) (.n 2) = true := aloneU fun q hq e => by
        have := h1 q hq
        rw [← e, ← h, lt2_irrefl] at this; cases this
      refine ⟨some (i, I64 p.2), ?_, Nat.le_refl _, by simp only [lk, if_pos h], ⟨p, by simp, h.symm⟩, fun m => ?_⟩
      · show (match keq (.n 2) (encK k) (encK p.1) with | some true => if EK.alone (encK k) (encU r) (.n 2) = true then some (some (i, I64 p.2)) else none | some false => mfind (.n 2) (encK k) (encU r) (i + 1) | none => none) = _
        rw [keqU, decide_eq_true h]
        simp only [ha, if_true]
      · rw [Nat.sub_self]
        simp only [wput, if_pos h]
        rfl
    · obtain ⟨q, h3, h4⟩ := mfindU h2 k (i + 1)
      refine ⟨q, ?_, ?_⟩
      · show (match keq (.n 2) (encK k) (encK p.1) with | some true => if EK.alone (encK k) (encU r) (.n 2) = true then some (some (i, I64 p.2)) else none | some false => mfind (.n 2) (encK k) (encU r) (i + 1) | none => none) = _
        rw [keqU, decide_eq_false h]
        exact h3
      · cases q with
        | none =>
          refine ⟨by simp only [lk, if_neg h]; exact h4.1, fun m => ?_⟩
          show (if klt (encK k) (encK p.1) = true then (encK k, I64 m) :: kvU p :: encU r else kvU p :: mins (encK k) (I64 m) (encU r)) = _
          rw [kltU, h4.2 m]
          simp only [wput, if_neg h]
          split <;> rfl
        | some jv =>
          obtain ⟨j, v⟩ := jv
          obtain ⟨h5, h6, ⟨x, hx, hxk⟩, h8⟩ := h4
          refine ⟨by omega, by simp only [lk, if_neg h]; exact h6, ⟨x, by simp [hx], hxk⟩, fun m' => ?_⟩
          have hlt : lt2 k p.1 = false := by
            cases hc : lt2 k p.1 with
            | false => rfl
            | true =>
              have := lt2_trans hc (h1 _ hx)
              rw [hxk, lt2_irrefl] at this; cases this
          rw [show j - i = (j - (i + 1)) + 1 by omega]
          show kvU p :: (encU r).set (j - (i + 1)) (encK k, I64 m') = _
          rw [h8 m']
          simp only [wput, if_neg h, hlt, Bool.false_eq_true, if_false]
          rfl
theorem mgetU {w : UM} (hs : Srt w) (k : K2) : mgetL (.n 2) (I64 0) false (encU w) (encK k) = some (I64 (lk w k)) := by
  obtain ⟨r, h1, h2⟩ := mfindU hs k 0
  unfold mgetL
  rw [h1]
  cases r with
  | none => simp [h2.1]
  | some q => obtain ⟨j, v⟩ := q; obtain ⟨_, rfl, _⟩ := h2; simp
theorem mputU {w : UM} (hs : Srt w) (k : K2) (m : Int) : mputL (.n 2) (encU w) (encK k) (I64 m) = some (encU (wput k m w)) := by
  obtain ⟨r, h1, h2⟩ := mfindU hs k 0
  unfold mputL
  rw [h1]
  cases r with
  | none => simp only [Option.map_some]; exact congrArg some (h2.2 m)
  | some q => obtain ⟨j, v⟩ := q; simp only [Option.map_some]; exact congrArg some (h2.2.2.2 m)
theorem getA {α : Type} {l : List α} {i : Nat} {x : α} (h : l[i]? = some x) (y : List α) : (l ++ y)[i]? = some x := by
  rw [List.getElem?_append_left (List.getElem?_eq_some_iff.1 h).1]; exact h
theorem setA {α : Type} {l : List α} {i : Nat} {x : α} (h : l[i]? = some x) (y : List α) (z : α) : (l ++ y).set i z = l.set i z ++ y := List.set_append_left _ _ (List.getElem?_eq_some_iff.1 h).1
theorem setN {α : Type} {l : List α} {i j : Nat} {x y : α} (h : l[i]? = some x) (hne : j ≠ i) : (l.set j y)[i]? = some x := by rw [List.getElem?_set_ne hne]; exact h
theorem setS' {α : Type} {l : List α} {i : Nat} {x y : α} (h : l[i]? = some x) : (l.set i y)[i]? = some y := List.getElem?_set_self (List.getElem?_eq_some_iff.1 h).1
def encA (a : Arc) : AV := .agg [I64 a.p, I64 a.m, I64 a.a, I64 a.b, I64 a.w]
theorem ACells (a : Arc) : (encA a).cells = [I64 a.p, I64 a.m, I64 a.a, I64 a.b, I64 a.w] := rfl
theorem AEta (p m a b w : Int) : AV.agg [I64 p, I64 m, I64 a, I64 b, I64 w] = encA ⟨p, m, a, b, w⟩ := rfl
theorem AEta' (a : Arc) : AV.agg [I64 a.p, I64 a.m, I64 a.a, I64 a.b, I64 a.w] = encA a := rfl
def timV (h : Ho) (T : Int) (um : Nat) : AV := .agg [encIs h.p, encPs h.s, I64 T, .mp um]
theorem TCells (h : Ho) (T : Int) (um : Nat) : (timV h T um).cells = [encIs h.p, encPs h.s, I64 T, .mp um] := rfl
def floV (h : Ho) (T : Int) (um ar sn N : Nat) : AV := .agg [encIs h.p, encPs h.s, I64 T, .mp um, .ref ar 0 N, .ref sn 0 N]
theorem FCells (h : Ho) (T : Int) (um ar sn N : Nat) : (floV h T um ar sn N).cells = [encIs h.p, encPs h.s, I64 T, .mp um, .ref ar 0 N, .ref sn 0 N] := rfl
attribute [go_sem] KCells ACells TCells FCells
theorem stay_ok (r m : Int) (h0 : -1000 ≤ r) (h1 : r ≤ 1000) : RV ft 75 [I64 r, I64 m] (encK (-1 - r, m)) := by
  refine RV_of ft75 rfl ?_
  simp only [c75, r75]
  have w := wrap_i64 (-1 - r) (by omega) (by omega)
  simp only [go_sem, Nat.reduceEqDiff, Nat.reduceAdd, Nat.reduceLT, Nat.reduceLeDiff, reduceIte, w]
  rfl
theorem node_W {h : Ho} {T : Int} {um ar sn N : Nat} {r m : Int} (hT0 : 0 ≤ T) (hT : T ≤ 60) (hr : -1 ≤ r) (hr' : r ≤ 100) (hm : -1000 ≤ m) (hm' : m ≤ 1000) {bl : List Blk} {tk : List (Nat × Nat)} {K : AV → Mem → Prop}
    (hK : ∀ j, K (I64 (ndI T r m)) ⟨bl ++ j, tk⟩) : WR ft (.f 68) [floV h T um ar sn N, I64 r, I64 m] ⟨bl, tk⟩ K := by
  rw [WR_f ft68 rfl]
  simp only [c68, r68]
  unfold ndI at hK
  have w1 := wrap_i64 (T + 1) (by omega) (by omega)
  have hrm : r * (T + 1) ≤ 100 * 61 ∧ -61 ≤ r * (T + 1) := by
    constructor
    · calc r * (T + 1) ≤ 100 * (T + 1) := Int.mul_le_mul_of_nonneg_right hr' (by omega)
        _ ≤ 100 * 61 := by omega
    · calc (-61 : Int) ≤ -1 * (T + 1) := by omega
        _ ≤ r * (T + 1) := Int.mul_le_mul_of_nonneg_right hr (by omega)
  have w2 := wrap_i64 (r * (T + 1)) (by omega) (by omega)
  have w3 := wrap_i64 (2 + r * (T + 1)) (by omega) (by omega)
  have w4 := wrap_i64 (2 + r * (T + 1) + m) (by omega) (by omega)
  cases hc : (r == -1)
  · rw [if_neg (by simpa using hc)] at hK
    simp only [go_sem, Nat.reduceEqDiff, Nat.reduceAdd, Nat.reduceLT, Nat.reduceLeDiff, reduceIte, hc, w1, w2, w3, w4, solid_mp]
    exact hK _
  · rw [if_pos (by simpa using hc)] at hK
    simp only [go_sem, Nat.reduceEqDiff, Nat.reduceAdd, Nat.reduceLT, Nat.reduceLeDiff, reduceIte, hc, solid_mp]
    exact hK _
theorem sum_take (l : List Int) (k : Nat) (x : Int) (h : l[k]? = some x) : (l.take (k + 1)).sum = (l.take k).sum + x := by
  rw [List.take_add_one, h]; simp
theorem sum_bd {l : List Int} (h : ∀ x ∈ l, 0 ≤ x ∧ x ≤ 99) : 0 ≤ l.sum ∧ l.sum ≤ 99 * l.length := by
  induction l with
  | nil => simp
  | cons a r ih =>
    have h1 := h a (by simp)
    have h2 := ih fun x hx => h x (by simp [hx])
    simp only [List.sum_cons, List.length_cons]
    push_cast
    omega
theorem everyone_W {h : Ho} (hV : HV h) {T : Int} {um : Nat} {bl : List Blk} {tk : List (Nat × Nat)} {K : AV → Mem → Prop}
    (hK : ∀ j, K (I64 (allP h)) ⟨bl ++ j, tk⟩) : WR ft (.f 65) [timV h T um] ⟨bl, tk⟩ K := by
  rw [WR_f ft65 rfl]
  simp only [c65, r65]
  have hn6 := hV.n6
  simp only [go_sem, Nat.reduceEqDiff, Nat.reduceAdd, Nat.reduceLT, Nat.reduceLeDiff, reduceIte, solid_mp]
  refine WL_inv (α := Nat) (fun q e mm => e 3 = I64 (h.p.take q).sum ∧ e 8 = encIs h.p ∧ e 9 = I64 h.p.length ∧ e 10 = I64 q ∧ q ≤ h.p.length ∧ mm = ⟨bl ++ [.live [timV h T um] 4], tk⟩) (fun q => h.p.length - q) 0 ?_ ?_
  · simp only [go_sem, Nat.reduceEqDiff, Nat.reduceAdd, Nat.reduceLT, Nat.reduceLeDiff, reduceIte]
    ((repeat' apply And.intro) <;> first | trivial | rfl | omega | assumption)
  rintro q e mm ⟨g3, g8, g9, g10, hq, rfl⟩
  by_cases hlt : q < h.p.length
  · obtain ⟨x, hx⟩ : ∃ x, h.p[q]? = some x := ⟨_, List.getElem?_eq_getElem hlt⟩
    have hb := sum_bd (l := h.p.take q) fun y hy => hV.pe y (List.mem_of_mem_take hy)
    have hxb := hV.pe x (List.mem_of_getElem? hx)
    have hl : (h.p.take q).length ≤ 6 := by rw [List.length_take]; omega
    have w := wrap_i64 ((h.p.take q).sum + x) (by omega) (by omega)
    simp only [go_sem, Nat.reduceEqDiff, Nat.reduceAdd, Nat.reduceLT, Nat.reduceLeDiff, reduceIte, g3, g8, g9, g10, dec_lt hlt, Is_idx hx, w, wrap_n1 q (by omega)]
    refine Nx_of (q + 1) (by show h.p.length - (q + 1) < h.p.length - q; omega) ?_
    simp only [go_sem, Nat.reduceEqDiff, Nat.reduceAdd, Nat.reduceLT, Nat.reduceLeDiff, reduceIte, g3, g8, g9]
    exact ⟨by rw [sum_take _ _ _ hx], trivial, trivial, trivial, hlt, trivial⟩
  · have hqe : q = h.p.length := by omega
    subst hqe
    simp only [go_sem, Nat.reduceEqDiff, Nat.reduceAdd, Nat.reduceLT, Nat.reduceLeDiff, reduceIte, g3, g8, g9, g10, dec_ge (Nat.le_refl _), List.take_length]
    exact hK _
theorem newTimed_W {h : Ho} {T : Int} {bl : List Blk} {tk : List (Nat × Nat)} {K : AV → Mem → Prop}
    (hK : ∀ x y, K (timV h T (bl.length + 2)) ⟨bl ++ [x, y, .mp (encU []) (.n 2)], tk⟩) : WR ft (.f 41) [encH h, I64 T] ⟨bl, tk⟩ K := by
  rw [WR_f ft41 rfl]
  simp only [c41, r41]
  have g1 : ∀ (x y : Blk), (bl ++ [x] ++ [y])[bl.length]? = some x := fun x y => by simp
  have g2 : ∀ (x y z : Blk), (bl ++ [x] ++ [y] ++ [z])[bl.length + 1]? = some y := fun x y z => by simp
  have g3 : ∀ (x y z u : Blk), (bl ++ [x] ++ [y] ++ [z]).set (bl.length + 1) u = bl ++ [x] ++ [u] ++ [z] := fun x y z u => by simp
  simp only [go_sem, Nat.reduceEqDiff, Nat.reduceAdd, Nat.reduceLT, Nat.reduceLeDiff, reduceIte, HEta, g1, g2, g3, List.length_append, List.length_cons, List.length_nil, solid_mp, isAgg_mp]
  have := hK (.live [encH h] 2) (.live [timV h T (bl.length + 2)] 4)
  simp only [List.append_assoc, List.cons_append, List.nil_append]
  exact this
end Go.Ab.T
end

section
namespace Go.Ab.T
set_option maxRecDepth 8000
set_option maxHeartbeats 1000000
theorem apart_psl (a b c : Nat) (es : List AV) (tk : Tk) : apart (.ptr a b c) (.sl es tk) = true := rfl
attribute [go_sem] apart_psl
theorem idx_ref {bl : List Blk} {tk : List (Nat × Nat)} {id N sz : Nat} {es : List AV} {n : Int} (h : bl[id]? = some (.live es sz)) (h0 : 0 ≤ n) (h1 : n < N) : idxAt ⟨bl, tk⟩ (.ref id 0 N) (I64 n) sz = some (.ptr id n.toNat 0) := by
  have hl : lsz ⟨bl, tk⟩ id = some sz := by simp only [lsz, h]
  simp only [idxAt]
  rw [if_pos ⟨⟨h0, h1⟩, hl⟩, Nat.zero_add]
theorem load_el {bl : List Blk} {tk : List (Nat × Nat)} {id k sz : Nat} {es : List AV} {e : AV} (h : bl[id]? = some (.live es sz)) (he : es[k]? = some e) (hc : e.cells = [e]) : loadAt ⟨bl, tk⟩ (.ptr id k 0) none = some e := by
  simp only [loadAt, h, he, hc, readCells]; rfl
theorem store_el {bl : List Blk} {tk : List (Nat × Nat)} {id k sz : Nat} {es : List AV} {e x : AV} (h : bl[id]? = some (.live es sz)) (he : es[k]? = some e) (hx : x.cells = [x] ∧ x.solid = true) (hw : writeCells e 0 [x] = some x) : storeAt ⟨bl, tk⟩ (.ptr id k 0) x 1 = some ⟨bl.set id (.live (es.set k x) sz), tk⟩ := by
  simp only [storeAt, h, he, hx.1, AV.solids, List.length_cons, List.length_nil, List.all_cons, List.all_nil, hx.2, hw]
  rfl
/-- What lies in the rows of arcs. -/
structure RowsI (tk : List (Nat × Nat)) (rows : List AV) (N : Nat) (L : Nat → List Arc) : Prop where
  len : rows.length = N
  row : ∀ v, v < N → (L v = [] ∧ rows[v]? = some (.sl [] .tight)) ∨ (L v ≠ [] ∧ ∃ t, rows[v]? = some (.sl ((L v).map encA) (.at t)) ∧ tk[t]? = some ((L v).length, 104))
  inj : ∀ (v v' : Nat) es es' t, rows[v]? = some (.sl es (.at t)) → rows[v']? = some (.sl es' (.at t)) → v = v'
theorem RowsI.get {tk : List (Nat × Nat)} {rows : List AV} {N : Nat} {L : Nat → List Arc} (h : RowsI tk rows N L) {v : Nat} (hv : v < N) : ∃ w, rows[v]? = some (.sl ((L v).map encA) w) := by
  rcases h.row v hv with ⟨h1, h2⟩ | ⟨_, t, h2, _⟩
  · exact ⟨_, by rw [h1]; exact h2⟩
  · exact ⟨_, h2⟩
def putL (L : Nat → List Arc) (v : Nat) (a : Arc) : Nat → List Arc := fun x => if x = v then L v ++ [a] else L x
theorem app_row {tk : List (Nat × Nat)} {rows : List AV} {N : Nat} {L : Nat → List Arc} (h : RowsI tk rows N L) {v : Nat} (hv : v < N) (a : Arc) (hl : (L v).length ≤ 100000) :
    ∃ w w' tk', rows[v]? = some (.sl ((L v).map encA) w) ∧ (∀ bl, appendAt ⟨bl, tk⟩ false (.sl ((L v).map encA) w) (.sl [encA a] .tight) 104 5 40 = some (.sl ((L v ++ [a]).map encA) w', ⟨bl, tk'⟩)) ∧ RowsI tk' (rows.set v (.sl ((L v ++ [a]).map encA) w')) N (putL L v a) := by
  have hvl : v < rows.length := by rw [h.len]; exact hv
  have hd : hdSz [encA a] 5 = true := rfl
  have hd2 : hdSz ((L v).map encA) 5 = true := hdSz_map' encA 5 _ fun _ => rfl
  have hlim : (((L v).map encA).length + [encA a].length) * (40 + 1) ≤ limit := by rw [List.length_map]; simp only [List.length_cons, List.length_nil]; unfold limit; omega
  rcases h.row v hv with ⟨h1, h2⟩ | ⟨h1, t, h2, h3⟩
  · refine ⟨.tight, .at tk.length, tk ++ [(1, 104)], by rw [h1]; exact h2, fun bl => ?_, ?_, fun x hx => ?_, fun x x' es es' t e1 e2 => ?_⟩
    · rw [h1] at hlim hd2 ⊢
      simp only [appendAt, Mem.elems, hd, if_neg (show ¬true = false by simp), if_pos (And.intro hlim hd2)]
      simp [appTk]
    · rw [List.length_set]; exact h.len
    · by_cases hxv : x = v
      · subst hxv
        right
        simp only [putL, if_true]
        refine ⟨by simp, tk.length, by rw [List.getElem?_set_self hvl], by rw [h1]; simp⟩
      · simp only [putL, if_neg hxv]
        rw [List.getElem?_set_ne (Ne.symm hxv)]
        rcases h.row x hx with g | ⟨g1, t, g2, g3⟩
        · exact .inl g
        · exact .inr ⟨g1, t, g2, getA g3 _⟩
    · have old : ∀ (y : Nat) es, y ≠ v → rows[y]? = some (.sl es (.at tk.length)) → False := fun y es hy e => by
        have hyl := (List.getElem?_eq_some_iff.1 e).1
        rcases h.row y (by rw [← h.len]; exact hyl) with ⟨_, g⟩ | ⟨_, t', g, g'⟩
        · rw [g] at e; cases e
        · rw [g] at e; cases e
          have := (List.getElem?_eq_some_iff.1 g').1
          omega
      by_cases hx : x = v <;> by_cases hx' : x' = v
      · rw [hx, hx']
      · subst hx
        rw [List.getElem?_set_self hvl] at e1
        rw [List.getElem?_set_ne (Ne.symm hx')] at e2
        cases e1
        exact (old x' es' hx' e2).elim
      · subst hx'
        rw [List.getElem?_set_self hvl] at e2
        rw [List.getElem?_set_ne (Ne.symm hx)] at e1
        cases e2
        exact (old x es hx e1).elim
      · rw [List.getElem?_set_ne (Ne.symm hx)] at e1
        rw [List.getElem?_set_ne (Ne.symm hx')] at e2
        exact h.inj _ _ _ _ _ e1 e2
  · have hne : (L v).length ≠ 0 := by simpa using h1
    refine ⟨.at t, .at t, tk.set t ((L v).length + 1, 104), h2, fun bl => ?_, ?_, fun x hx => ?_, fun x x' es es' t' e1 e2 => ?_⟩
    · simp only [appendAt, Mem.elems, hd, if_neg (show ¬true = false by simp), if_pos (And.intro hlim hd2)]
      simp [appTk, h3, hne]
    · rw [List.length_set]; exact h.len
    · by_cases hxv : x = v
      · subst hxv
        right
        simp only [putL, if_true]
        refine ⟨by simp, t, by rw [List.getElem?_set_self hvl], by rw [List.getElem?_set_self (List.getElem?_eq_some_iff.1 h3).1]; simp⟩
      · simp only [putL, if_neg hxv]
        rw [List.getElem?_set_ne (Ne.symm hxv)]
        rcases h.row x hx with g | ⟨g1, t', g2, g3⟩
        · exact .inl g
        · refine .inr ⟨g1, t', g2, ?_⟩
          rw [List.getElem?_set_ne]
          · exact g3
          · intro e; subst e; exact hxv (h.inj _ _ _ _ _ g2 h2)
    · have to : ∀ (y : Nat) es, (rows.set v (.sl ((L v ++ [a]).map encA) (.at t)))[y]? = some (.sl es (.at t')) → ∃ es, rows[y]? = some (.sl es (.at t')) := fun y es e => by
        by_cases hy : y = v
        · subst hy; rw [List.getElem?_set_self hvl] at e; cases e; exact ⟨_, h2⟩
        · rw [List.getElem?_set_ne (Ne.symm hy)] at e; exact ⟨_, e⟩
      obtain ⟨_, e1⟩ := to _ _ e1
      obtain ⟨_, e2⟩ := to _ _ e2
      exact h.inj _ _ _ _ _ e1 e2
theorem add_W {h : Ho} {T : Int} {um ar sn N : Nat} {a : Arc} {bl : List Blk} {tk : List (Nat × Nat)} {rows : List AV} {L : Nat → List Arc} (har : bl[ar]? = some (.live rows 1)) (hR : RowsI tk rows N L) (hl : ∀ v, (L v).length ≤ 10000) {x y : Nat} (hx : a.a = x) (hy : a.b = y) (hxN : x < N) (hyN : y < N)
    {K : AV → Mem → Prop} (hK : ∀ j rows' tk', RowsI tk' rows' N (putL (putL L x a) y a) → K (.tup []) ⟨bl.set ar (.live rows' 1) ++ j, tk'⟩) : WR ft (.f 74) [floV h T um ar sn N, encA a] ⟨bl, tk⟩ K := by
  rw [WR_f ft74 rfl]
  simp only [c74, r74]
  obtain ⟨B, hB⟩ : ∃ B, B = bl ++ [Blk.live [floV h T um ar sn N] 6] ++ [Blk.live [encA a] 5] := ⟨_, rfl⟩
  have hl0 : bl.length < B.length := by rw [hB]; simp
  have g0 : B[bl.length]? = some (.live [floV h T um ar sn N] 6) := by rw [hB]; simp
  have g1 : B[bl.length + 1]? = some (.live [encA a] 5) := by rw [hB]; simp
  have hal := (List.getElem?_eq_some_iff.1 har).1
  have g2 : B[ar]? = some (.live rows 1) := by rw [hB]; exact getA (getA har _) _
  obtain ⟨w, w', tk1, e1, e2, e3⟩ := app_row hR hxN a (by have := hl x; omega)
  have hl1 : (putL L x a y).length ≤ 100000 := by unfold putL; have := hl x; have := hl y; split <;> simp <;> omega
  obtain ⟨u, u', tk2, f1, f2, f3⟩ := app_row e3 hyN a hl1
  have i1 := idx_ref (tk := tk) (N := N) (n := (x : Int)) g2 (by omega) (by omega)
  have l1 := load_el (tk := tk) g2 e1 rfl
  have s1 : storeAt ⟨B, tk1⟩ (.ptr ar x 0) (.sl ((L x ++ [a]).map encA) w') 1 = some ⟨B.set ar (.live (rows.set x (.sl ((L x ++ [a]).map encA) w')) 1), tk1⟩ := store_el g2 e1 ⟨rfl, rfl⟩ rfl
  have i1' := idx_ref (tk := tk1) (N := N) (n := (x : Int)) g2 (by omega) (by omega)
  obtain ⟨B1, hB1⟩ : ∃ B1, B1 = B.set ar (.live (rows.set x (.sl ((L x ++ [a]).map encA) w')) 1) := ⟨_, rfl⟩
  rw [← hB1] at s1
  have h0 : B1[bl.length]? = some (.live [floV h T um ar sn N] 6) := by rw [hB1]; exact setN g0 (by omega)
  have h1 : B1[bl.length + 1]? = some (.live [encA a] 5) := by rw [hB1]; exact setN g1 (by omega)
  have h2 : B1[ar]? = some (.live (rows.set x (.sl ((L x ++ [a]).map encA) w')) 1) := by rw [hB1]; exact setS' g2
  have i2 := idx_ref (tk := tk1) (N := N) (n := (y : Int)) h2 (by omega) (by omega)
  have i2' := idx_ref (tk := tk2) (N := N) (n := (y : Int)) h2 (by omega) (by omega)
  have l2 := load_el (tk := tk1) h2 f1 rfl
  have s2 : storeAt ⟨B1, tk2⟩ (.ptr ar y 0) (.sl ((putL L x a y ++ [a]).map encA) u') 1 = some ⟨B1.set ar (.live ((rows.set x (.sl ((L x ++ [a]).map encA) w')).set y (.sl ((putL L x a y ++ [a]).map encA) u')) 1), tk2⟩ := store_el h2 f1 ⟨rfl, rfl⟩ rfl
  rw [Int.toNat_natCast] at i1 i1' i2 i2'
  rw [← hx] at i1 i1'
  rw [← hy] at i2 i2'
  have q1 := e2 B
  have q2 := f2 B1
  have hAs : (encA a).solids = true := rfl
  have hFs : (floV h T um ar sn N).solids = true := rfl
  have hlen : (bl ++ [Blk.live [floV h T um ar sn N] 6]).length = bl.length + 1 := by simp
  simp only [go_sem, Nat.reduceEqDiff, Nat.reduceAdd, Nat.reduceLT, Nat.reduceLeDiff, reduceIte, hFs, hAs, hlen, ← hB, g0, g1, i1, l1, AEta', q1, i1', s1, h0, h1, i2, l2, q2, i2', s2]
  have := hK [Blk.live [floV h T um ar sn N] 6, Blk.live [encA a] 5] _ _ f3
  rw [hB1, List.set_set, hB]
  rw [show (bl ++ [Blk.live [floV h T um ar sn N] 6] ++ [Blk.live [encA a] 5]) = bl ++ [Blk.live [floV h T um ar sn N] 6, Blk.live [encA a] 5] by simp, setA har]
  exact this
end Go.Ab.T
end
