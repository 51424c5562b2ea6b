/-
  A part of the proofs over this seat.
  (The texts KzM9 KzK18, one behind the other.)
-/
import Derived.Test.YtedkegliicileaaP3
import Derived.Test.YtedkegliicileaaP2
set_option linter.unusedSimpArgs false
set_option linter.unusedVariables false
set_option linter.unusedSectionVars false
section
namespace Go.Ab.T
/-! ### Teams for slots -/
def onT (s : Sl) (t : Int) : Sl := { s with team := t }
/-- With these teams no show is late. -/
def freeB (h : Hs) : List Sl → List Int → (Int → Int) → (Int → Int) → Bool
  | s :: l, t :: ts, rd, id => !decide (s.bg < (evH h true (onT s t) rd id).start) && freeB h l ts (setI rd s.screen (evH h true (onT s t) rd id).ready) (setI id t ((evH h true (onT s t) rd id).ready + h.walk))
  | [], [], _, _ => true
  | _, _, _, _ => false
theorem freeB_cons (h : Hs) (s : Sl) (l : List Sl) (t : Int) (ts : List Int) (rd id : Int → Int) : freeB h (s :: l) (t :: ts) rd id = (!decide (s.bg < (evH h true (onT s t) rd id).start) && freeB h l ts (setI rd s.screen (evH h true (onT s t) rd id).ready) (setI id t ((evH h true (onT s t) rd id).ready + h.walk))) := rfl
theorem freeB_len (h : Hs) : ∀ {l : List Sl} {ts : List Int} {rd id : Int → Int}, freeB h l ts rd id = true → ts.length = l.length
  | [], [], _, _, _ => rfl
  | [], _ :: _, _, _, h => by simp [freeB] at h
  | _ :: _, [], _, _, h => by simp [freeB] at h
  | s :: l, t :: ts, rd, id, hf => by
    rw [freeB_cons, Bool.and_eq_true] at hf
    simp [freeB_len h hf.2]
theorem start_team (h : Hs) (s : Sl) (t : Int) (rd id id' : Int → Int) : (evH h true (onT s t) rd id).start = (evH h true s rd id').start := rfl
theorem ev_team (h : Hs) (s : Sl) (t t' : Int) (rd id id' : Int → Int) (he : id t = id' t') : evH h true (onT s t) rd id = evH h true (onT s t') rd id' := by
  show evOf _ _ _ _ _ _ (id t) = evOf _ _ _ _ _ _ (id' t')
  rw [he]; rfl
/-- Other names for teams. -/
theorem freeB_map (h : Hs) (ρ : Int → Int) : ∀ {l : List Sl} {ts : List Int} {rd id id' : Int → Int}, (∀ a ∈ ts, ∀ b ∈ ts, ρ a = ρ b → a = b) → (∀ a ∈ ts, id' (ρ a) = id a) → freeB h l ts rd id = true → freeB h l (ts.map ρ) rd id' = true
  | [], [], _, _, _, _, _, _ => rfl
  | [], _ :: _, _, _, _, _, _, h => by simp [freeB] at h
  | _ :: _, [], _, _, _, _, _, h => by simp [freeB] at h
  | s :: l, t :: ts, rd, id, id', h1, h2, hf => by
    rw [List.map_cons, freeB_cons, Bool.and_eq_true]
    rw [freeB_cons, Bool.and_eq_true] at hf
    have he := ev_team h s (ρ t) t rd id' id (h2 t (by simp))
    rw [he]
    refine ⟨hf.1, freeB_map h ρ (fun a ha b hb => h1 a (by simp [ha]) b (by simp [hb])) (fun a ha => ?_) hf.2⟩
    unfold setI
    by_cases hat : a = t
    · subst hat; rw [if_pos rfl, if_pos rfl]
    · rw [if_neg hat, if_neg (fun he => hat (h1 a (by simp [ha]) t (by simp) he)), h2 a (by simp [ha])]
/-- A team before it that is as free. -/
def dup (id : Int → Int) (t : Nat) : Bool := (List.range t).any fun u => id (u : Int) == id (t : Int)
def asg (h : Hs) (n : Nat) : List Sl → (Int → Int) → (Int → Int) → Option (List Int)
  | [], _, _ => some []
  | s :: l, rd, id => if s.bg < (evH h true s rd id).start then none else
      (List.range n).findSome? fun t => if dup id t = true then none else
        (asg h n l (setI rd s.screen (evH h true (onT s t) rd id).ready) (setI id t ((evH h true (onT s t) rd id).ready + h.walk))).map fun ts => (t : Int) :: ts
theorem asg_cons (h : Hs) (n : Nat) (s : Sl) (l : List Sl) (rd id : Int → Int) : asg h n (s :: l) rd id = if s.bg < (evH h true s rd id).start then none else
      (List.range n).findSome? fun t => if dup id t = true then none else
        (asg h n l (setI rd s.screen (evH h true (onT s t) rd id).ready) (setI id t ((evH h true (onT s t) rd id).ready + h.walk))).map fun ts => (t : Int) :: ts := rfl
theorem asg_some {h : Hs} {n : Nat} : ∀ {l : List Sl} {rd id : Int → Int} {ts : List Int}, asg h n l rd id = some ts → freeB h l ts rd id = true ∧ ∀ t ∈ ts, 0 ≤ t ∧ t < n
  | [], rd, id, ts, ha => by cases ha; exact ⟨rfl, fun t ht => by simp at ht⟩
  | s :: l, rd, id, ts, ha => by
    rw [asg_cons] at ha
    split at ha
    · cases ha
    · rename_i hl
      obtain ⟨t, ht, h2⟩ := List.exists_of_findSome?_eq_some ha
      split at h2
      · cases h2
      · obtain ⟨us, h3, rfl⟩ := Option.map_eq_some_iff.1 h2
        obtain ⟨h4, h5⟩ := asg_some h3
        have htn := List.mem_range.1 ht
        refine ⟨?_, fun u hu => ?_⟩
        · rw [freeB_cons, h4, Bool.and_true, Bool.not_eq_true', decide_eq_false_iff_not]
          exact hl
        · rcases List.mem_cons.1 hu with rfl | hu
          · omega
          · exact h5 u hu
def swapI (t t' a : Int) : Int := if a = t then t' else if a = t' then t else a
theorem swapI_inj (t t' a b : Int) (h : swapI t t' a = swapI t t' b) : a = b := by
  unfold swapI at h
  repeat' split at h
  all_goals omega
theorem least_dup (id : Int → Int) : ∀ (t : Nat), ∃ u, u ≤ t ∧ id (u : Int) = id (t : Int) ∧ dup id u = false := by
  intro t
  induction t using Nat.strongRecOn with
  | _ t ih =>
    cases hd : dup id t with
    | false => exact ⟨t, Nat.le_refl _, rfl, hd⟩
    | true =>
      unfold dup at hd
      obtain ⟨u, hu, he⟩ := List.any_eq_true.1 hd
      have hut := List.mem_range.1 hu
      obtain ⟨v, h1, h2, h3⟩ := ih u hut
      exact ⟨v, by omega, h2.trans (by simpa using he), h3⟩
theorem asg_none {h : Hs} {n : Nat} : ∀ {l : List Sl} {rd id : Int → Int}, asg h n l rd id = none → ∀ ts : List Int, (∀ t ∈ ts, 0 ≤ t ∧ t < n) → freeB h l ts rd id = false
  | [], _, _, ha, _, _ => by cases ha
  | s :: l, rd, id, ha, [], _ => rfl
  | s :: l, rd, id, ha, t :: ts, hr => by
    cases hf : freeB h (s :: l) (t :: ts) rd id with
    | false => rfl
    | true =>
      exfalso
      rw [freeB_cons, Bool.and_eq_true, Bool.not_eq_true', decide_eq_false_iff_not] at hf
      obtain ⟨h1, h2⟩ := hf
      have h1s : ¬s.bg < (evH h true s rd id).start := h1
      rw [asg_cons, if_neg h1s] at ha
      obtain ⟨t0, ht0⟩ : ∃ t0 : Nat, t = t0 := ⟨t.toNat, by have := (hr t (by simp)).1; omega⟩
      subst ht0
      have htn := (hr (t0 : Int) (by simp)).2
      obtain ⟨u, hu1, hu2, hu3⟩ := least_dup id t0
      have hev := ev_team h s (t0 : Int) (u : Int) rd id id hu2.symm
      have hsome := List.findSome?_eq_none_iff.1 ha u (List.mem_range.2 (by omega))
      rw [hu3, if_neg (by simp), Option.map_eq_none_iff] at hsome
      have hall : ∀ a, setI id (u : Int) ((evH h true (onT s (u : Int)) rd id).ready + h.walk) (swapI t0 u a) = setI id (t0 : Int) ((evH h true (onT s (t0 : Int)) rd id).ready + h.walk) a := by
        intro a
        rw [← hev]
        unfold setI swapI
        by_cases ha1 : a = t0
        · rw [if_pos ha1, if_pos rfl, if_pos ha1]
        · rw [if_neg ha1, if_neg ha1]
          by_cases ha2 : a = u
          · rw [if_pos ha2, ha2]
            by_cases htu : (t0 : Int) = u
            · exact absurd (ha2.trans htu.symm) ha1
            · rw [if_neg htu]; exact hu2.symm
          · rw [if_neg ha2, if_neg ha2]
      have hfree := freeB_map h (swapI t0 u) (id' := setI id (u : Int) ((evH h true (onT s (u : Int)) rd id).ready + h.walk)) (fun a _ b _ => swapI_inj _ _ a b) (fun a _ => hall a) h2
      rw [hev] at hfree
      have := asg_none hsome (ts.map (swapI t0 u)) (fun b hb => by
        obtain ⟨a, ha', rfl⟩ := List.mem_map.1 hb
        have := hr a (by simp [ha'])
        unfold swapI
        split
        · omega
        · split
          · omega
          · exact this)
      rw [this] at hfree; cases hfree
/-- There are teams, so many. -/
def feas (h : Hs) (n : Nat) (l : List Sl) : Bool := (asg h n l zeroI zeroI).isSome
theorem feas_iff {h : Hs} {n : Nat} {l : List Sl} : feas h n l = true ↔ ∃ ts : List Int, (∀ t ∈ ts, 0 ≤ t ∧ t < n) ∧ freeB h l ts zeroI zeroI = true := by
  unfold feas
  constructor
  · intro hs
    obtain ⟨ts, hts⟩ := Option.isSome_iff_exists.1 hs
    exact ⟨ts, (asg_some hts).2, (asg_some hts).1⟩
  · rintro ⟨ts, h1, h2⟩
    cases ha : asg h n l zeroI zeroI with
    | some _ => rfl
    | none => rw [asg_none ha ts h1] at h2; cases h2
theorem feas_mono {h : Hs} {n m : Nat} {l : List Sl} (hnm : n ≤ m) (hf : feas h n l = true) : feas h m l = true := by
  obtain ⟨ts, h1, h2⟩ := feas_iff.1 hf
  exact feas_iff.2 ⟨ts, fun t ht => by have := h1 t ht; omega, h2⟩
def withT : List Sl → List Int → List Sl
  | s :: l, t :: ts => onT s t :: withT l ts
  | _, _ => []
theorem withT_len : ∀ {l : List Sl} {ts : List Int}, ts.length = l.length → (withT l ts).length = l.length
  | [], [], _ => rfl
  | [], _ :: _, h => by simp at h
  | _ :: _, [], h => by simp at h
  | s :: l, t :: ts, h => by simp [withT, withT_len (l := l) (ts := ts) (by simpa using h)]
theorem withT_get : ∀ {l : List Sl} {ts : List Int} {i : Nat} {s : Sl} {t : Int}, l[i]? = some s → ts[i]? = some t → (withT l ts)[i]? = some (onT s t)
  | [], _, i, s, t, h, _ => by simp at h
  | _ :: _, [], i, s, t, _, h => by simp at h
  | x :: l, y :: ts, 0, s, t, h1, h2 => by simp at h1 h2; subst h1; subst h2; rfl
  | x :: l, y :: ts, i + 1, s, t, h1, h2 => by
    rw [List.getElem?_cons_succ] at h1 h2
    exact withT_get (l := l) h1 h2
theorem lateGo_free (h : Hs) : ∀ {l : List Sl} {ts : List Int} {rd id : Int → Int} {n : Int}, ts.length = l.length → 0 ≤ n → ((lateGo h (withT l ts) rd id n).1 = -1 ↔ freeB h l ts rd id = true) ∧ (freeB h l ts rd id = false → 0 ≤ (lateGo h (withT l ts) rd id n).1)
  | [], [], _, _, _, _, _ => ⟨by simp [withT, lateGo, freeB], by simp [freeB]⟩
  | [], _ :: _, _, _, _, h, _ => by simp at h
  | _ :: _, [], _, _, _, h, _ => by simp at h
  | s :: l, t :: ts, rd, id, n, hl, hn => by
    have ih := lateGo_free h (l := l) (ts := ts) (rd := setI rd s.screen (evH h true (onT s t) rd id).ready) (id := setI id t ((evH h true (onT s t) rd id).ready + h.walk)) (n := n + 1) (by simpa using hl) (by omega)
    rw [freeB_cons, withT, lateGo]
    by_cases hx : (onT s t).bg < (evH h true (onT s t) rd id).start
    · have hx' : s.bg < (evH h true (onT s t) rd id).start := hx
      rw [if_pos hx, decide_eq_true hx']
      exact ⟨⟨fun h => by dsimp only at h; omega, fun h => by simp at h⟩, fun _ => hn⟩
    · have hx' : ¬s.bg < (evH h true (onT s t) rd id).start := hx
      rw [if_neg hx, decide_eq_false hx', Bool.not_false, Bool.true_and]
      exact ih
end Go.Ab.T
end

section
namespace Go.Ab.T
set_option maxRecDepth 8000
set_option maxHeartbeats 4000000
def idxE : List Int → Int → Nat → Int
  | [], _, _ => -1
  | y :: r, x, k => if (x == y) = true then k else idxE r x (k + 1)
theorem idxE_any : ∀ (l : List Int) (x : Int) (k : Nat), decide (0 ≤ idxE l x k) = l.any (· == x)
  | [], _, _ => rfl
  | y :: r, x, k => by
    unfold idxE
    by_cases h : x = y
    · subst h; simp
    · have h' : ¬y = x := fun e => h e.symm
      simp [h, h', idxE_any r x (k + 1)]
theorem Index_ok (l : List Int) (x : Int) (hl : l.length < 1073741824) : RV ft 69 [encI l, I64 x] (I64 (idxE l x 0)) := by
  refine RV_of ft69 rfl ?_
  simp only [c69, r69]
  simp only [go_sem, Nat.reduceEqDiff, Nat.reduceAdd, Nat.reduceLT, Nat.reduceLeDiff, reduceIte, and_self, decide_true, decide_false, beq_self_eq_true, I_len]
  refine WL_inv (α := Nat × List Int) (fun q e mm => e 0 = encI l ∧ e 1 = I64 x ∧ e 6 = encI l ∧ e 7 = I64 l.length ∧ e 8 = I64 q.1 ∧ l.drop q.1 = q.2 ∧ idxE q.2 x q.1 = idxE l x 0) (fun q => q.2.length) (0, l) ?_ ?_
  · simp only [go_sem, Nat.reduceEqDiff, Nat.reduceAdd, Nat.reduceLT, Nat.reduceLeDiff, reduceIte, and_self, decide_true, decide_false, beq_self_eq_true]
    ((repeat' apply And.intro) <;> first | trivial | rfl | omega | assumption)
  rintro ⟨k, r⟩ e mm ⟨g0, g1, g6, g7, g8, hd, hq⟩
  dsimp only at g8 hd hq
  cases r with
  | nil =>
    have := drop_nil hd
    simp only [go_sem, Nat.reduceEqDiff, Nat.reduceAdd, Nat.reduceLT, Nat.reduceLeDiff, reduceIte, and_self, decide_true, decide_false, beq_self_eq_true, g0, g1, g6, g7, g8, dec_ge this]
    rw [← hq]; rfl
  | cons y r =>
    obtain ⟨hk, hd2, hlt⟩ := drop_cons hd
    rw [idxE] at hq
    cases hxy : (x == y)
    · rw [hxy] at hq
      simp only [go_sem, Nat.reduceEqDiff, Nat.reduceAdd, Nat.reduceLT, Nat.reduceLeDiff, reduceIte, and_self, decide_true, decide_false, beq_self_eq_true, g0, g1, g6, g7, g8, dec_lt hlt, I_idx _ hk, encN_eq, hxy, wrap_n1 k (by omega)]
      refine Nx_of (k + 1, r) (by simp) ?_
      simp only [go_sem, Nat.reduceEqDiff, Nat.reduceAdd, Nat.reduceLT, Nat.reduceLeDiff, reduceIte, and_self, decide_true, decide_false, beq_self_eq_true, g0, g1, g6, g7]
      exact ⟨trivial, trivial, trivial, trivial, trivial, hd2, by simpa using hq⟩
    · rw [hxy, if_pos rfl] at hq
      simp only [go_sem, Nat.reduceEqDiff, Nat.reduceAdd, Nat.reduceLT, Nat.reduceLeDiff, reduceIte, and_self, decide_true, decide_false, beq_self_eq_true, g0, g1, g6, g7, g8, dec_lt hlt, I_idx _ hk, encN_eq, hxy]
      rw [← hq]
theorem Contains_ok (l : List Int) (x : Int) (hl : l.length < 1073741824) : RV ft 64 [encI l, I64 x] (.bool (l.any (· == x))) := by
  refine RV_of ft64 rfl ?_
  simp only [c64, r64]
  simp only [go_sem, Nat.reduceEqDiff, Nat.reduceAdd, Nat.reduceLT, Nat.reduceLeDiff, reduceIte, and_self, decide_true, decide_false, beq_self_eq_true, WB69, snI, hotI, WVH_eq (Index_ok l x hl), true_and, idxE_any]
theorem V_slc (h : Hs) (rd id : Int → Int) {k : Nat} (hk : k ≤ 4) : asliceAt (.pv (encV h true rd id) 17) none (some (I64 (k : Int))) 4 = some (encI ((List.range k).map fun j : Nat => id (j : Int))) := by
  rcases (by omega : k = 0 ∨ k = 1 ∨ k = 2 ∨ k = 3 ∨ k = 4) with rfl | rfl | rfl | rfl | rfl <;> rfl
theorem dup_any (id : Int → Int) (k : Nat) : (((List.range k).map fun j : Nat => id (j : Int)).any (· == id (k : Int))) = dup id k := by
  unfold dup; rw [List.any_map]; rfl
theorem Ss_from1 (m : Mem) (s : Sl) (r : List Sl) : sliceAt m (encSs (s :: r)) (some (I64 1)) none 6 = some (encSs r) := by
  unfold encSs
  rw [sliceAt_sl, if_pos (hdSz_map' encS 6 (s :: r) fun _ => rfl), bounds_sn, List.length_map, if_pos ⟨by omega, by simp only [List.length_cons]; omega, by omega⟩]
  simp
  exact List.take_of_length_le (by simp)
theorem Ss_idx0 (m : Mem) (s : Sl) (r : List Sl) : idxAt m (encSs (s :: r)) (I64 0) 6 = some (.pv (encS s) 0) := Ss_idx (k := 0) m rfl
theorem appI (bl : List Blk) (a : Int) (us : List Int) (hl : us.length ≤ 1000000) : ∃ w tk', appendAt ⟨bl, []⟩ false (.sl [I64 a] .tight) (encI us) 3 1 8 = some (.sl ((a :: us).map encN) w, ⟨bl, tk'⟩) := by
  cases us with
  | nil => exact ⟨_, _, rfl⟩
  | cons x r =>
    have h1 : hdSz ((x :: r).map encN) 1 = true := rfl
    have h2 : (1 + (x :: r).length) * (8 + 1) ≤ limit := by unfold limit; omega
    refine ⟨.at 0, [(1 + (x :: r).length, 3)], ?_⟩
    simp only [appendAt, elemsI, h1, List.length_map, List.length_cons, List.length_nil, Nat.zero_add] at h2 ⊢
    rw [if_neg (by simp), if_pos ⟨h2, rfl⟩]
    simp [appTk, encN]
theorem find_some {α : Type} {f : Nat → Option α} {k : Nat} {v : α} (h1 : ∀ j, j < k → f j = none) (h2 : f k = some v) : ∀ {n : Nat}, k < n → (List.range n).findSome? f = some v
  | 0, hk => by omega
  | n + 1, hk => by
    rw [List.range_succ, List.findSome?_append]
    by_cases hkn : k < n
    · rw [find_some h1 h2 hkn]; rfl
    · obtain rfl : k = n := by omega
      rw [List.findSome?_eq_none_iff.2 (fun x hx => h1 x (List.mem_range.1 hx))]
      simp [h2]
theorem find_none {α : Type} {f : Nat → Option α} {n : Nat} (h1 : ∀ j, j < n → f j = none) : (List.range n).findSome? f = none :=
  List.findSome?_eq_none_iff.2 fun x hx => h1 x (List.mem_range.1 hx)
theorem SV_on {hh : Hs} {s : Sl} (hS : SV hh s) {t : Int} (h0 : 0 ≤ t) (h1 : t ≤ hh.teams - 1) : SV hh (onT s t) := ⟨hS.s0, hS.s1, hS.r0, hS.r1, hS.r2, hS.c0, hS.c1, h0, h1⟩
theorem assign_ok {h hh : Hs} (hH : HV h) (hHH : HV hh) (h4 : hh.teams = 4) {n : Nat} (hn : h.teams = n) : ∀ {l : List Sl} (_ : ∀ s ∈ l, SV hh s ∧ 0 ≤ s.bg ∧ s.bg ≤ 2000) {rd id : Int → Int} {c : Int} (_ : Bd c rd) (_ : Bd c id) (_ : 2000 ≤ c) (_ : c + 1600 * l.length ≤ 1000000),
    RV ft 51 [encV h true rd id, encSs l] (.tup [encI ((asg h n l rd id).getD []), .bool (asg h n l rd id).isSome])
  | [], _, rd, id, c, _, _, _, _ => by
    refine RV_of ft51 rfl ?_
    simp only [c51, r51]
    have hz : (((0 : Nat) : Int) == 0) = true := rfl
    simp only [go_sem, Nat.reduceEqDiff, Nat.reduceAdd, Nat.reduceLT, Nat.reduceLeDiff, reduceIte, and_self, decide_true, decide_false, beq_self_eq_true, V_len, V_solid, Ss_len, hz]
    rfl
  | s :: r, hl, rd, id, c, b1, b2, hc, hcl => by
    have n4 : n ≤ 4 := by have := hH.t1; omega
    obtain ⟨hS, s0, s1⟩ := hl s (by simp)
    have hlr : r.length ≤ 1000000 := by simp only [List.length_cons] at hcl; push_cast at hcl; omega
    refine RV_of ft51 rfl ?_
    simp only [c51, r51]
    have hne0 : (((r.length + 1 : Nat) : Int) == 0) = false := by rw [beq_eq_false_iff_ne]; omega
    have hdl := delays_okW hH hHH hS s0 s1 b1 b2 hc (by omega) true
    rw [asg_cons]
    cases hd : decide (s.bg < (evH h true s rd id).start)
    case true =>
      rw [if_pos (of_decide_eq_true hd)]
      simp only [go_sem, Nat.reduceEqDiff, Nat.reduceAdd, Nat.reduceLT, Nat.reduceLeDiff, reduceIte, and_self, decide_true, decide_false, beq_self_eq_true, V_len, V_solid, V_take, V_drop, V_eta, Ss_len, hne0, Ss_idx0, SCells, SEta, WB47, snV, hotV, snS, hotS, WVH_eq hdl, hd, true_and]
      rfl
    rw [if_neg (of_decide_eq_false hd)]
    obtain ⟨f, hf⟩ : ∃ f : Nat → Option (List Int), f = fun t => if dup id t = true then none else
        (asg h n r (setI rd s.screen (evH h true (onT s t) rd id).ready) (setI id t ((evH h true (onT s t) rd id).ready + h.walk))).map fun ts => (t : Int) :: ts := ⟨_, rfl⟩
    rw [← hf]
    simp only [go_sem, Nat.reduceEqDiff, Nat.reduceAdd, Nat.reduceLT, Nat.reduceLeDiff, reduceIte, and_self, decide_true, decide_false, beq_self_eq_true, V_len, V_solid, V_take, V_drop, V_eta, Ss_len, hne0, Ss_idx0, SCells, SEta, WB47, snV, hotV, snS, hotS, WVH_eq hdl, hd, true_and, Nat.zero_add, V_c0]
    refine WL_inv (α := Nat) (fun k e mm => e 1 = encSs (s :: r) ∧ e 2 = .pv (encV h true rd id) 0 ∧ e 6 = .ptr 0 0 0 ∧ e 21 = I64 h.teams ∧ e 22 = I64 k ∧ k ≤ n ∧ (∀ j, j < k → f j = none) ∧ ∃ s1, mm = ⟨[.live [encS s1] 6], []⟩ ∧ ∀ t, writeCells (encS s1) 5 [I64 t] = some (encS (onT s t))) (fun k => n - k) 0 ?_ ?_
    · simp only [go_sem, Nat.reduceEqDiff, Nat.reduceAdd, Nat.reduceLT, Nat.reduceLeDiff, reduceIte, and_self, decide_true, decide_false, beq_self_eq_true]
      exact ⟨trivial, trivial, trivial, trivial, rfl, Nat.zero_le _, fun j hj => by omega, s, rfl, fun _ => rfl⟩
    rintro k e mm ⟨g1, g2, g6, g21, g22, hkn, hno, s1', rfl, hs1⟩
    by_cases hk : k < n
    case neg =>
      obtain rfl : k = n := by omega
      have dn : decide ((k : Int) < h.teams) = false := decide_eq_false (by omega)
      rw [find_none hno]
      simp only [go_sem, Nat.reduceEqDiff, Nat.reduceAdd, Nat.reduceLT, Nat.reduceLeDiff, reduceIte, and_self, decide_true, decide_false, beq_self_eq_true, g1, g2, g6, g21, g22, dn]
      rfl
    have dn : decide ((k : Int) < h.teams) = true := decide_eq_true (by omega)
    have q3 : ((0 : Int) ≤ (k : Int)) = True := eq_true (by omega)
    have q4 : ((k : Int) < 4) = True := eq_true (by omega)
    have q6 : (((4 : Nat) : Int)) = 4 := rfl
    have hslc := V_slc h rd id (k := k) (by omega)
    have v2 : (encV h true rd id).cells[17 + k]? = some (I64 (id (k : Int))) := by have := V_id h true rd id (k := (k : Int)) (by omega) (by omega); rwa [Int.toNat_natCast] at this
    have hct := Contains_ok ((List.range k).map fun j : Nat => id (j : Int)) (id (k : Int)) (by simp; omega)
    rw [dup_any] at hct
    cases hdup : dup id k
    case true =>
      have hfk : f k = none := by rw [hf]; simp only [hdup, if_true]
      simp only [go_sem, Nat.reduceEqDiff, Nat.reduceAdd, Nat.reduceLT, Nat.reduceLeDiff, reduceIte, and_self, decide_true, decide_false, beq_self_eq_true, g1, g2, g6, g21, g22, dn, Nat.zero_add, hslc, q3, q4, q6, Int.toNat_natCast, Nat.mul_one, v2, WB64, snI, hotI, WVH_eq hct, hdup, true_and, wrap_n1 k (by omega)]
      refine Nx_of (k + 1) (by show n - (k + 1) < n - k; omega) ?_
      simp only [go_sem, Nat.reduceEqDiff, Nat.reduceAdd, Nat.reduceLT, Nat.reduceLeDiff, reduceIte, and_self, decide_true, decide_false, beq_self_eq_true, g1, g2, g6, g21]
      exact ⟨trivial, trivial, trivial, trivial, trivial, hk, fun j hj => by
        by_cases hjk : j = k
        · subst hjk; exact hfk
        · exact hno j (by omega), s1', rfl, hs1⟩
    have hw := hs1 (k : Int)
    have hs2 : ∀ t, writeCells (encS (onT s (k : Int))) 5 [I64 t] = some (encS (onT s t)) := fun _ => rfl
    have hSk : SV hh (onT s (k : Int)) := SV_on hS (by omega) (by omega)
    have haf := after_okW hH hHH hSk s0 s1 b1 b2 hc (by omega) true
    have hev := ev_b hH hSk s0 s1 b1 b2 hc true
    have hw0 := hH.w0
    have hw1 := hH.w1
    have hscr : (onT s (k : Int)).screen = s.screen := rfl
    have htm : (onT s (k : Int)).team = k := rfl
    rw [hscr, htm] at haf
    have hfk : f k = (asg h n r (setI rd s.screen (evH h true (onT s (k : Int)) rd id).ready) (setI id (k : Int) ((evH h true (onT s (k : Int)) rd id).ready + h.walk))).map fun ts => (k : Int) :: ts := by rw [hf]; simp only [hdup, Bool.false_eq_true, if_false]
    have hcl' : c + 1600 + 1600 * (r.length : Int) ≤ 1000000 := by simp only [List.length_cons] at hcl; push_cast at hcl; omega
    have ih := assign_ok hH hHH h4 hn (l := r) (fun x hx => hl x (List.mem_cons_of_mem _ hx)) (rd := setI rd s.screen (evH h true (onT s (k : Int)) rd id).ready) (id := setI id (k : Int) ((evH h true (onT s (k : Int)) rd id).ready + h.walk)) (c := c + 1600)
      (b1.set (by omega) (by omega) (by omega)) (b2.set (by omega) (by omega) (by omega)) (by omega) hcl'
    generalize onT s (k : Int) = sk at hw hs2 haf hev hfk ih
    cases ha : asg h n r (setI rd s.screen (evH h true sk rd id).ready) (setI id (k : Int) ((evH h true sk rd id).ready + h.walk)) with
    | none =>
      rw [ha] at ih hfk
      simp only [go_sem, Nat.reduceEqDiff, Nat.reduceAdd, Nat.reduceLT, Nat.reduceLeDiff, reduceIte, and_self, decide_true, decide_false, beq_self_eq_true, g1, g2, g6, g21, g22, dn, Nat.zero_add, hslc, q3, q4, q6, Int.toNat_natCast, Nat.mul_one, v2, WB64, snI, hotI, WVH_eq hct, hdup, true_and, hw, SCells, SEta, V_take, V_drop, V_len, V_eta, WB46, snV, hotV, snS, hotS, WVH_eq haf, Ss_from1, WB51, snSs, hotSs, WVH_eq ih, Option.isSome_none, wrap_n1 k (by omega)]
      refine Nx_of (k + 1) (by show n - (k + 1) < n - k; omega) ?_
      simp only [go_sem, Nat.reduceEqDiff, Nat.reduceAdd, Nat.reduceLT, Nat.reduceLeDiff, reduceIte, and_self, decide_true, decide_false, beq_self_eq_true, g1, g2, g6, g21]
      exact ⟨trivial, trivial, trivial, trivial, trivial, hk, fun j hj => by
        by_cases hjk : j = k
        · subst hjk; exact hfk
        · exact hno j (by omega), sk, rfl, hs2⟩
    | some us =>
      rw [ha] at ih hfk
      have hus : us.length ≤ 1000000 := by rw [freeB_len h (asg_some ha).1]; exact hlr
      rw [find_some hno hfk hk]
      simp only [Option.getD_some, Option.isSome_some] at ih ⊢
      obtain ⟨w, tk', happ⟩ := appI [.live [encS sk] 6] (k : Int) us hus
      simp only [go_sem, Nat.reduceEqDiff, Nat.reduceAdd, Nat.reduceLT, Nat.reduceLeDiff, reduceIte, and_self, decide_true, decide_false, beq_self_eq_true, g1, g2, g6, g21, g22, dn, Nat.zero_add, hslc, q3, q4, q6, Int.toNat_natCast, Nat.mul_one, v2, WB64, snI, hotI, WVH_eq hct, hdup, true_and, hw, SCells, SEta, V_take, V_drop, V_len, V_eta, WB46, snV, hotV, snS, hotS, WVH_eq haf, Ss_from1, WB51, snSs, hotSs, WVH_eq ih, happ]
      exact congrArg (fun x => AV.tup [x, .bool true]) (snIt ⟨[.live [encS sk] 6], tk'⟩ 6 ((k : Int) :: us) w)
end Go.Ab.T
end
