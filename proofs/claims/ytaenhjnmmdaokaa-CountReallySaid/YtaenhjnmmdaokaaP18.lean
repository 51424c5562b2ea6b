/-
  A part of the proofs over this seat.
  (The texts KcM7 KcM8 KcK31, one behind the other.)
-/
import Derived.Test.YtaenhjnmmdaokaaP9
import Derived.Test.YtaenhjnmmdaokaaP15
import Derived.Test.YtaenhjnmmdaokaaP17
set_option linter.unusedSimpArgs false
set_option linter.unusedVariables false
set_option linter.unusedSectionVars false
section
namespace Go.Ab.T
/-! ### Choices from any lists -/
def Pick : List (List Ch) → List Ch → Prop
  | [], [] => True
  | L :: Ls, x :: xs => x ∈ L ∧ Pick Ls xs
  | _, _ => False
def sumT : List Ch → V3
  | [] => V3.zero
  | x :: xs => x.t.add (sumT xs)
def sumF : List Ch → Int
  | [] => 0
  | x :: xs => x.f + sumF xs
def stP (P : V3 → Int → Prop) (L : List Ch) : V3 → Int → Prop := fun k n => ∃ k0 n0 c, P k0 n0 ∧ c ∈ L ∧ k = c.t.add k0 ∧ n = n0 + c.f
theorem stP_nn {P : V3 → Int → Prop} (hb : ∀ k n, P k n → 0 ≤ n) {L : List Ch} (hL : ∀ c ∈ L, 0 ≤ c.f) : ∀ k n, stP P L k n → 0 ≤ n := by
  rintro k n ⟨k0, n0, c, h1, h2, _, rfl⟩
  have := hb _ _ h1
  have := hL c h2
  omega
theorem stP_lst {P : V3 → Int → Prop} {w : WM} {L : List Ch} (hs : Srt w) (h : Lst P w) (hb : ∀ k n, P k n → 0 ≤ n) (hL : ∀ c ∈ L, 0 ≤ c.f) : Srt (withF w L) ∧ Lst (stP P L) (withF w L) := by
  have hw : ∀ p ∈ w, P p.1 p.2 ∧ ∀ n, P p.1 n → p.2 ≤ n := fun p hp => (h p.1 p.2).1 (mem_lk hs hp)
  obtain ⟨h1, h2⟩ := withF_lst (fun p hp => hb _ _ (hw p hp).1) hL
  refine ⟨h1, fun k m => ?_⟩
  have low : ∀ n, stP P L k n → ∃ n', (∃ p ∈ w, ∃ c ∈ L, k = c.t.add p.1 ∧ n' = p.2 + c.f) ∧ n' ≤ n := by
    rintro n ⟨k0, n0, c, e1, e2, e3, rfl⟩
    cases hl : lk w k0 with
    | none => exact ((h.none hb).1 hl n0 e1).elim
    | some m0 =>
      have := ((h k0 m0).1 hl).2 n0 e1
      exact ⟨m0 + c.f, ⟨(k0, m0), lk_mem hl, c, e2, e3, rfl⟩, by omega⟩
  have up : ∀ n, (∃ p ∈ w, ∃ c ∈ L, k = c.t.add p.1 ∧ n = p.2 + c.f) → stP P L k n := by
    rintro n ⟨p, hp, c, hc, e1, e2⟩
    exact ⟨p.1, p.2, c, (hw p hp).1, hc, e1, e2⟩
  rw [h2 k m]
  constructor
  · rintro ⟨a, b⟩
    refine ⟨up m a, fun n hn => ?_⟩
    obtain ⟨n', h3, h4⟩ := low n hn
    have := b n' h3
    omega
  · rintro ⟨a, b⟩
    obtain ⟨n', h3, h4⟩ := low m a
    have := b n' (up n' h3)
    have e : n' = m := by omega
    subst e
    exact ⟨h3, fun n hn => b n (up n hn)⟩
theorem fold_lst : ∀ (Ls : List (List Ch)) {P : V3 → Int → Prop} {w : WM}, (∀ L ∈ Ls, ∀ c ∈ L, 0 ≤ c.f) → Srt w → Lst P w → (∀ k n, P k n → 0 ≤ n) →
    Lst (fun k n => ∃ k0 n0 xs, P k0 n0 ∧ Pick Ls xs ∧ k = k0.add (sumT xs) ∧ n = n0 + sumF xs) (Ls.foldl withF w)
  | [], P, w, _, hs, h, hb => by
    refine h.congr fun k n => ⟨fun hp => ⟨k, n, [], hp, trivial, V3.ext' (by simp [V3.add, sumT, V3.zero]) (by simp [V3.add, sumT, V3.zero]) (by simp [V3.add, sumT, V3.zero]), by simp [sumF]⟩, ?_⟩
    rintro ⟨k0, n0, xs, h1, h2, h3, h4⟩
    cases xs with
    | nil =>
      have e : k0.add (sumT []) = k0 := V3.ext' (by simp [V3.add, sumT, V3.zero]) (by simp [V3.add, sumT, V3.zero]) (by simp [V3.add, sumT, V3.zero])
      rw [e] at h3
      simp only [sumF, Int.add_zero] at h4
      rw [h3, h4]; exact h1
    | cons x xs => exact h2.elim
  | L :: Ls, P, w, hL, hs, h, hb => by
    obtain ⟨h1, h2⟩ := stP_lst hs h hb (hL L (by simp))
    have h3 := fold_lst Ls (P := stP P L) (w := withF w L) (fun M hM => hL M (by simp [hM])) h1 h2 (stP_nn hb (hL L (by simp)))
    rw [List.foldl_cons]
    have e3 : ∀ (a b c : V3), (b.add a).add c = a.add (b.add c) := fun a b c => V3.ext' (by simp only [V3.add]; omega) (by simp only [V3.add]; omega) (by simp only [V3.add]; omega)
    refine h3.congr fun k n => ⟨?_, ?_⟩
    · rintro ⟨k0, n0, xs, ⟨k1, n1, c, e1, e2, rfl, rfl⟩, hp, rfl, rfl⟩
      exact ⟨k1, n1, c :: xs, e1, ⟨e2, hp⟩, by simp only [sumT]; exact e3 _ _ _, by simp only [sumF]; omega⟩
    · rintro ⟨k0, n0, xs, e1, hp, rfl, rfl⟩
      cases xs with
      | nil => exact hp.elim
      | cons c xs => exact ⟨c.t.add k0, n0 + c.f, xs, ⟨k0, n0, c, e1, hp.1, rfl, rfl⟩, hp.2, by simp only [sumT]; exact (e3 _ _ _).symm, by simp only [sumF]; omega⟩
theorem Pick_len : ∀ {Ls : List (List Ch)} {xs : List Ch}, Pick Ls xs → xs.length = Ls.length
  | [], [], _ => rfl
  | _ :: _, _ :: _, h => by simp [Pick_len h.2]
theorem Pick_get : ∀ {Ls : List (List Ch)} {xs : List Ch} {i : Nat} {L : List Ch}, Pick Ls xs → Ls[i]? = some L → ∃ x, xs[i]? = some x ∧ x ∈ L
  | _ :: _, x :: _, 0, L, h, hi => by simp at hi; exact ⟨x, rfl, hi ▸ h.1⟩
  | _ :: Ls, _ :: xs, i + 1, L, h, hi => by
    obtain ⟨x, h1, h2⟩ := Pick_get (i := i) h.2 (by simpa using hi)
    exact ⟨x, by simpa using h1, h2⟩
theorem Pick_erase : ∀ {Ls : List (List Ch)} {xs : List Ch} {i : Nat} {x : Ch}, Pick Ls xs → xs[i]? = some x → Pick (Ls.eraseIdx i) (xs.eraseIdx i) ∧ sumT xs = (sumT (xs.eraseIdx i)).add x.t ∧ sumF xs = sumF (xs.eraseIdx i) + x.f
  | _ :: _, y :: ys, 0, x, h, hi => by
    simp at hi; subst hi
    exact ⟨h.2, V3.ext' (by simp only [sumT, V3.add, List.eraseIdx_zero, List.tail_cons]; omega) (by simp only [sumT, V3.add, List.eraseIdx_zero, List.tail_cons]; omega) (by simp only [sumT, V3.add, List.eraseIdx_zero, List.tail_cons]; omega), by simp only [sumF, List.eraseIdx_zero, List.tail_cons]; omega⟩
  | L :: Ls, y :: ys, i + 1, x, h, hi => by
    obtain ⟨h1, h2, h3⟩ := Pick_erase (i := i) h.2 (by simpa using hi)
    refine ⟨⟨h.1, h1⟩, ?_, ?_⟩
    · show y.t.add (sumT ys) = (y.t.add (sumT (ys.eraseIdx i))).add x.t
      rw [h2]
      exact V3.ext' (by simp only [V3.add]; omega) (by simp only [V3.add]; omega) (by simp only [V3.add]; omega)
    · show y.f + sumF ys = y.f + sumF (ys.eraseIdx i) + x.f
      omega
  | [], xs, _, _, h, hi => by cases xs with
    | nil => simp at hi
    | cons _ _ => exact h.elim
theorem Pick_insert : ∀ {Ls : List (List Ch)} {xs : List Ch} {i : Nat} {L : List Ch} {x : Ch}, Ls[i]? = some L → x ∈ L → Pick (Ls.eraseIdx i) xs → ∃ ys, Pick Ls ys ∧ ys[i]? = some x ∧ ys.eraseIdx i = xs
  | M :: Ls, xs, 0, L, x, hi, hx, h => by simp at hi; subst hi; exact ⟨x :: xs, ⟨hx, h⟩, rfl, rfl⟩
  | M :: Ls, y :: xs, i + 1, L, x, hi, hx, h => by
    obtain ⟨ys, h1, h2, h3⟩ := Pick_insert (i := i) (by simpa using hi) hx h.2
    exact ⟨y :: ys, ⟨h.1, h1⟩, by simpa using h2, by simp [h3]⟩
  | _ :: _, [], _ + 1, _, _, _, _, h => h.elim
  | [], _, _, _, _, hi, _, _ => by simp at hi
theorem Pick_set : ∀ {Ls : List (List Ch)} {xs : List Ch} {i : Nat} {x : Ch}, Pick Ls xs → xs[i]? = some x → Pick (Ls.set i [x]) xs
  | _ :: _, y :: _, 0, x, h, hi => by simp at hi; exact ⟨by simp [hi], h.2⟩
  | _ :: _, _ :: _, i + 1, x, h, hi => ⟨h.1, Pick_set h.2 (by simpa using hi)⟩
  | [], xs, _, _, h, hi => by cases xs with
    | nil => simp at hi
    | cons _ _ => exact h.elim
theorem Pick_of_set : ∀ {Ls : List (List Ch)} {xs : List Ch} {i : Nat} {L : List Ch} {x : Ch}, Ls[i]? = some L → x ∈ L → Pick (Ls.set i [x]) xs → Pick Ls xs
  | M :: Ls, y :: xs, 0, L, x, hi, hx, h => by
    simp at hi; subst hi
    have := h.1
    simp only [List.mem_singleton] at this
    exact ⟨this ▸ hx, h.2⟩
  | M :: Ls, y :: xs, i + 1, L, x, hi, hx, h => ⟨h.1, Pick_of_set (by simpa using hi) hx h.2⟩
  | _ :: _, [], 0, _, _, _, _, h => h.elim
  | _ :: _, [], _ + 1, _, _, _, _, h => h.elim
  | [], _, _, _, _, hi, _, _ => by simp at hi
/-- The fewest flaws of a choice from the lists, and that there is one. -/
def Good (s : V3) (Ls : List (List Ch)) (m : Int) : Prop := (∃ xs, Pick Ls xs ∧ sumT xs = s ∧ sumF xs = m) ∧ ∀ xs, Pick Ls xs → sumT xs = s → m ≤ sumF xs
theorem othG_eq' : ∀ (Ls : List (List Ch)) (k i : Nat) (w : WM), othG ((k + i : Nat) : Int) k w Ls = (Ls.eraseIdx i).foldl withF w
  | [], k, i, w => by simp [othG]
  | L :: Ls, k, 0, w => by
    have go : ∀ (Ls : List (List Ch)) (k' : Nat) (w : WM), k < k' → othG (k : Int) k' w Ls = Ls.foldl withF w := by
      intro Ls
      induction Ls with
      | nil => intro k' w _; rfl
      | cons d Ls ih =>
        intro k' w hk
        have hb : ((k' : Int) != (k : Int)) = true := by rw [bne_iff_ne]; omega
        simp only [othG, hb, if_pos, List.foldl_cons]
        exact ih (k' + 1) _ (by omega)
    have hb : ((k : Int) != ((k + 0 : Nat) : Int)) = false := by simp
    simp only [othG, hb]
    exact go Ls (k + 1) w (by omega)
  | L :: Ls, k, i + 1, w => by
    have hb : ((k : Int) != ((k + (i + 1) : Nat) : Int)) = true := by rw [bne_iff_ne]; omega
    simp only [othG, hb, if_pos, List.eraseIdx_cons_succ, List.foldl_cons]
    have := othG_eq' Ls (k + 1) i (withF w L)
    rw [show k + 1 + i = k + (i + 1) by omega] at this
    exact this
theorem lst0 : Lst (fun k n => k = V3.zero ∧ n = 0) [(V3.zero, 0)] := fun k m => by
  by_cases h : k = V3.zero
  · subst h
    simp only [lk]
    constructor
    · intro e
      simp at e
      exact ⟨⟨by first | trivial | rfl, e.symm⟩, fun n hn => by omega⟩
    · rintro ⟨⟨_, e⟩, _⟩
      simp [e]
  · have h' : ¬ V3.zero = k := fun e => h e.symm
    simp [lk, h, h']
theorem scr_pick {s : V3} {Ls : List (List Ch)} {i : Nat} {L : List Ch} (hi : Ls[i]? = some L) (hL : ∀ M ∈ Ls, ∀ c ∈ M, 0 ≤ c.f) {c : Ch} (hc : c ∈ L) {g : Int} : scr (othG (i : Int) 0 [(V3.zero, 0)] Ls) s c = some g ↔
    (∃ xs, Pick Ls xs ∧ xs[i]? = some c ∧ sumT xs = s ∧ sumF xs = g) ∧ ∀ xs, Pick Ls xs → xs[i]? = some c → sumT xs = s → g ≤ sumF xs := by
  have ho : othG (i : Int) 0 [(V3.zero, 0)] Ls = (Ls.eraseIdx i).foldl withF [(V3.zero, 0)] := by have := othG_eq' Ls 0 i [(V3.zero, 0)]; rwa [Nat.zero_add] at this
  have hl := fold_lst (Ls.eraseIdx i) (P := fun k n => k = V3.zero ∧ n = 0) (w := [(V3.zero, 0)]) (fun M hM => hL M (List.mem_of_mem_eraseIdx hM)) (by simp [Srt]) lst0 (fun k n h => by omega)
  have key : ∀ n, (∃ k0 n0 xs, (k0 = V3.zero ∧ n0 = 0) ∧ Pick (Ls.eraseIdx i) xs ∧ s.sub c.t = k0.add (sumT xs) ∧ n = n0 + sumF xs) ↔ ∃ xs, Pick Ls xs ∧ xs[i]? = some c ∧ sumT xs = s ∧ sumF xs = n + c.f := by
    intro n
    constructor
    · rintro ⟨k0, n0, xs, ⟨rfl, rfl⟩, h1, h2, rfl⟩
      obtain ⟨ys, h3, h4, h5⟩ := Pick_insert hi hc h1
      obtain ⟨_, h6, h7⟩ := Pick_erase h3 h4
      rw [h5] at h6 h7
      have ex := congrArg V3.x h2
      have ey := congrArg V3.y h2
      have ez := congrArg V3.z h2
      simp only [V3.sub, V3.add, V3.zero] at ex ey ez
      exact ⟨ys, h3, h4, by rw [h6]; exact V3.ext' (by simp only [V3.add]; omega) (by simp only [V3.add]; omega) (by simp only [V3.add]; omega), by omega⟩
    · rintro ⟨xs, h1, h2, rfl, h4⟩
      obtain ⟨h5, h6, h7⟩ := Pick_erase h1 h2
      exact ⟨V3.zero, 0, xs.eraseIdx i, ⟨rfl, rfl⟩, h5, by rw [h6]; exact V3.ext' (by simp only [V3.add, V3.sub, V3.zero]; omega) (by simp only [V3.add, V3.sub, V3.zero]; omega) (by simp only [V3.add, V3.sub, V3.zero]; omega), by omega⟩
  unfold scr
  rw [ho, Option.map_eq_some_iff]
  constructor
  · rintro ⟨a, h1, rfl⟩
    obtain ⟨h2, h3⟩ := (hl _ _).1 h1
    refine ⟨(key a).1 h2, fun xs h4 h5 h6 => ?_⟩
    have := h3 (sumF xs - c.f) ((key _).2 ⟨xs, h4, h5, h6, by omega⟩)
    omega
  · rintro ⟨⟨xs, h1, h2, h3, h4⟩, h5⟩
    refine ⟨g - c.f, (hl _ _).2 ⟨(key _).2 ⟨xs, h1, h2, h3, by omega⟩, fun n hn => ?_⟩, by omega⟩
    obtain ⟨ys, h6, h7, h8, h9⟩ := (key n).1 hn
    have := h5 ys h6 h7 h8
    omega
/-- Keeping one likely choice of a list keeps the fewest flaws. -/
theorem greedy {s : V3} {Ls : List (List Ch)} {m : Int} (hG : Good s Ls m) {i : Nat} {L : List Ch} (hi : Ls[i]? = some L) (hL : ∀ M ∈ Ls, ∀ c ∈ M, 0 ≤ c.f) :
    ∃ c r, (likS (othG (i : Int) 0 [(V3.zero, 0)] Ls) s L ([], 0)).1 = c :: r ∧ c ∈ L ∧ Good s (Ls.set i [c]) m := by
  have hI := likS_I (othG (i : Int) 0 [(V3.zero, 0)] Ls) s L [] ([], 0) ⟨fun _ => ⟨(fun c hc => nomatch hc), rfl⟩, fun h => absurd rfl h⟩
  rw [List.nil_append] at hI
  generalize likS (othG (i : Int) 0 [(V3.zero, 0)] Ls) s L ([], 0) = q at hI ⊢
  obtain ⟨h1, h2⟩ := hI
  obtain ⟨⟨xs, g1, g2, g3⟩, g4⟩ := hG
  obtain ⟨x, e1, e2⟩ := Pick_get g1 hi
  have hsx : scr (othG (i : Int) 0 [(V3.zero, 0)] Ls) s x = some m := (scr_pick hi hL e2).2 ⟨⟨xs, g1, e1, g2, g3⟩, fun ys k1 _ k3 => g4 ys k1 k3⟩
  have hne : q.1 ≠ [] := by
    intro hn
    have := (h1 hn).1 x e2
    rw [hsx] at this; cases this
  obtain ⟨h3, h4⟩ := h2 hne
  obtain ⟨c, r, hq⟩ : ∃ c r, q.1 = c :: r := by
    cases hq : q.1 with
    | nil => exact absurd hq hne
    | cons c r => exact ⟨c, r, rfl⟩
  obtain ⟨h5, h6⟩ := (h3 c).1 (by rw [hq]; simp)
  obtain ⟨⟨ys, k1, k2, k3, k4⟩, _⟩ := (scr_pick hi hL h5).1 h6
  have hle := h4 x e2 m hsx
  have hge := g4 ys k1 k3
  refine ⟨c, r, hq, h5, ⟨ys, Pick_set k1 k2, k3, by omega⟩, fun zs z1 z2 => g4 zs (Pick_of_set hi h5 z1) z2⟩
end Go.Ab.T
end

section
namespace Go.Ab.T
theorem PickC {p s : V3} : ∀ {cs : List Ctr} {xs : List Ch}, Pick (cs.map (chs p s)) xs → IsT (sumT xs) cs (xs.map Ch.t) ∧ flT p cs (xs.map Ch.t) = sumF xs
  | [], [], _ => ⟨rfl, rfl⟩
  | c :: cs, x :: xs, h => by
    obtain ⟨h1, h2⟩ := h
    obtain ⟨t, ⟨⟨e1, e2⟩, e3⟩, rfl⟩ := mem_chs.1 h1
    obtain ⟨h3, h4⟩ := PickC (cs := cs) (xs := xs) h2
    refine ⟨⟨⟨e1, e3⟩, ?_⟩, ?_⟩
    · have : (sumT (mkc p c t :: xs)).sub t = sumT xs := V3.ext' (by simp only [sumT, mkc, V3.sub, V3.add]; omega) (by simp only [sumT, mkc, V3.sub, V3.add]; omega) (by simp only [sumT, mkc, V3.sub, V3.add]; omega)
      show IsT ((sumT (mkc p c t :: xs)).sub t) cs (xs.map Ch.t)
      rw [this]; exact h3
    · show flw p c t + flT p cs (xs.map Ch.t) = flw p c t + sumF xs
      rw [h4]
theorem PickT {p s : V3} : ∀ {cs : List Ctr} {ts : List V3} {k : V3}, IsT k cs ts → (∀ t ∈ ts, t.le s) → ∃ xs, Pick (cs.map (chs p s)) xs ∧ sumT xs = k ∧ sumF xs = flT p cs ts
  | [], [], k, h, _ => ⟨[], trivial, h.symm, rfl⟩
  | c :: cs, t :: ts, k, h, hl => by
    obtain ⟨⟨h1, h2⟩, h3⟩ := h
    obtain ⟨xs, e1, e2, e3⟩ := PickT (cs := cs) (ts := ts) h3 fun t ht => hl t (by simp [ht])
    refine ⟨mkc p c t :: xs, ⟨mem_chs.2 ⟨t, ⟨⟨h1, hl t (by simp)⟩, h2⟩, rfl⟩, e1⟩, ?_, ?_⟩
    · show t.add (sumT xs) = k
      rw [e2]
      exact V3.ext' (by simp only [V3.sub, V3.add]; omega) (by simp only [V3.sub, V3.add]; omega) (by simp only [V3.sub, V3.add]; omega)
    · show flw p c t + sumF xs = flw p c t + flT p cs ts
      rw [e3]
theorem good0 {v : Ev} (h : EV4 v) (ht : hasTr v = true) : Good (toV v.se) (v.cs.map (chs (toV v.pr) (toV v.se))) (likV v 0).2 := by
  obtain ⟨⟨ts, h1, h2⟩, h3⟩ := likV_min h ht (i := 0) (by have := h.n1; omega)
  constructor
  · obtain ⟨xs, e1, e2, e3⟩ := PickT (p := toV v.pr) (s := toV v.se) h1 fun t htm => ((IsT_nn h1).2 t htm).2
    exact ⟨xs, e1, e2, by rw [e3, h2]⟩
  · intro xs e1 e2
    obtain ⟨e3, e4⟩ := PickC e1
    rw [e2] at e3
    have := h3 _ e3
    omega
end Go.Ab.T
end

section
namespace Go.Ab.T
set_option maxRecDepth 8000
set_option maxHeartbeats 1000000
theorem set_getA {bl : List Blk} {i j : Nat} {B X : Blk} (h : bl[i]? = some B) (hne : j ≠ i) : (bl.set j X)[i]? = some B := by
  rw [List.getElem?_set_ne hne]; exact h
theorem set_get {bl : List Blk} {i : Nat} {B X : Blk} (h : bl[i]? = some B) : (bl.set i X)[i]? = some X := List.getElem?_set_self (List.getElem?_eq_some_iff.1 h).1
/-- The tills explained so far. -/
structure ExI (v : Ev) (id p5 p6 : Nat) (D : List Nat) (t : TLs) (rows : List AV) (bl : List Blk) : Prop where
  b0 : bl[0]? = some (.live [encE v] 4)
  b5 : bl[p5]? = some (.live [tAV (toV v.se) id v.cs.length] 4)
  bi : bl[id]? = some (.live (encTL t) 1)
  b6 : bl[p6]? = some (.live rows 1)
  tl : t.length = v.cs.length
  rl : rows.length = v.cs.length
  tg : Good (toV v.se) (t.map Prod.fst) (likV v 0).2
  tp : ∀ xs, Pick (t.map Prod.fst) xs → Pick (v.cs.map (chs (toV v.pr) (toV v.se))) xs
  tb : ∀ p ∈ t, p.1.length ≤ 100000000 ∧ ∀ c ∈ p.1, ChB c
  rw' : ∀ r ∈ rows, r.cells = [r] ∧ (r = .sl [] .tight ∨ ∃ b k, r = .ref b 0 k)
  rd : ∀ i ∈ D, ∃ c tk b, t[i]? = some ([c], tk) ∧ rows[i]? = some (.ref b 0 v.pr.length) ∧ bl[b]? = some (.live ((fromV v.pr.length c.t).map I64) 1) ∧ p6 < b
theorem ExI.ext {v : Ev} {id p5 p6 : Nat} {D : List Nat} {t : TLs} {rows : List AV} {bl : List Blk} (h : ExI v id p5 p6 D t rows bl) (x : List Blk) : ExI v id p5 p6 D t rows (bl ++ x) :=
  { h with b0 := getA h.b0 _, b5 := getA h.b5 _, bi := getA h.bi _, b6 := getA h.b6 _, rd := fun i hi => let ⟨c, tk, b, e1, e2, e3, e4⟩ := h.rd i hi; ⟨c, tk, b, e1, e2, getA e3 _, e4⟩ }
theorem ExI.sub {v : Ev} {id p5 p6 : Nat} {D D' : List Nat} {t : TLs} {rows : List AV} {bl : List Blk} (h : ExI v id p5 p6 D t rows bl) (hs : ∀ x ∈ D', x ∈ D) : ExI v id p5 p6 D' t rows bl := { h with rd := fun i hi => h.rd i (hs i hi) }
theorem likelyN_W {n : Nat} {t : TLs} (hl : t.length = n) (ht : ∀ p ∈ t, p.1.length ≤ 100000000 ∧ ∀ c ∈ p.1, ChB c) (hn : t.length ≤ 1000) {s : V3} (hs : s.bd 1000) {i : Nat} {L : List Ch} {tkL : Tk} (hi : t[i]? = some (L, tkL)) {B : List Blk} {tk : List (Nat × Nat)} {id : Nat} (hid : B[id]? = some (.live (encTL t) 1)) {K : AV → Mem → Prop}
    (hK : ∀ v junk toks, AppV 72 ((likS (othG i 0 [(V3.zero, 0)] (t.map Prod.fst)) s L ([], 0)).1.map encCh) v toks → TkK 72 tk toks → K (.tup [v, I64 (likS (othG i 0 [(V3.zero, 0)] (t.map Prod.fst)) s L ([], 0)).2]) ⟨B ++ junk, toks⟩) : WR ft (.f 47) [tAV s id n, I64 (i : Int)] ⟨B, tk⟩ K := by
  subst hl
  exact likely_W ht hn hs hi hid hK
theorem ExI.step {v : Ev} {id p5 p6 : Nat} {D : List Nat} {t : TLs} {rows : List AV} {bl : List Blk} (h : ExI v id p5 p6 D t rows bl) (ho : 0 < id ∧ id < p5 ∧ p5 < p6) {i : Nat} (hi : i < v.cs.length) {L : List Ch} {tkL tk' : Tk} (hL : t[i]? = some (L, tkL)) {c : Ch} (hc : c ∈ L) (hG : Good (toV v.se) ((t.map Prod.fst).set i [c]) (likV v 0).2) :
    ExI v id p5 p6 (i :: D) (t.set i ([c], tk')) (rows.set i (.ref bl.length 0 v.pr.length)) (((bl.set id (.live (encTL (t.set i ([c], tk'))) 1)) ++ [Blk.live ((fromV v.pr.length c.t).map I64) 1]).set p6 (.live (rows.set i (.ref bl.length 0 v.pr.length)) 1)) := by
  obtain ⟨o1, o2, o3⟩ := ho
  have l6 := (List.getElem?_eq_some_iff.1 h.b6).1
  have hm : (t.set i ([c], tk')).map Prod.fst = (t.map Prod.fst).set i [c] := by rw [List.map_set]
  have hLt : (t.map Prod.fst)[i]? = some L := by rw [List.getElem?_map, hL]; rfl
  have hil : i < t.length := by rw [h.tl]; exact hi
  constructor
  · exact set_getA (getA (set_getA h.b0 (by omega)) _) (by omega)
  · exact set_getA (getA (set_getA h.b5 (by omega)) _) (by omega)
  · exact set_getA (getA (set_get h.bi) _) (by omega)
  · exact set_get (getA (set_getA h.b6 (by omega)) _)
  · rw [List.length_set]; exact h.tl
  · rw [List.length_set]; exact h.rl
  · rw [hm]; exact hG
  · intro xs hx
    rw [hm] at hx
    exact h.tp xs (Pick_of_set hLt hc hx)
  · intro p hp
    rcases List.mem_or_eq_of_mem_set hp with hp | rfl
    · exact h.tb p hp
    · have := (h.tb _ (List.mem_of_getElem? hL)).2 c hc
      exact ⟨by simp, fun x hx => by simp only [List.mem_singleton] at hx; rw [hx]; exact this⟩
  · intro r hr
    rcases List.mem_or_eq_of_mem_set hr with hr | rfl
    · exact h.rw' r hr
    · exact ⟨rfl, .inr ⟨_, _, rfl⟩⟩
  · intro j hj
    by_cases hji : j = i
    · subst hji
      refine ⟨c, tk', bl.length, by rw [List.getElem?_set_self hil], by rw [List.getElem?_set_self (by rw [h.rl]; exact hi)], ?_, l6⟩
      refine set_getA ?_ (by omega)
      have : (bl.set id (.live (encTL (t.set j ([c], tk'))) 1)).length = bl.length := List.length_set
      rw [← this]; simp
    · have hjD : j ∈ D := by
        cases hj with
        | head => exact absurd rfl hji
        | tail _ hj => exact hj
      obtain ⟨c', tk, b, e1, e2, e3, e4⟩ := h.rd j hjD
      refine ⟨c', tk, b, by rw [List.getElem?_set_ne (fun e => hji e.symm)]; exact e1, by rw [List.getElem?_set_ne (fun e => hji e.symm)]; exact e2, set_getA (getA (set_getA e3 (by omega)) _) (by omega), e4⟩
theorem store_any {m : Mem} {id k : Nat} {es : List AV} {x y : AV} (h : m.blks[id]? = some (.live es 1)) (hv : es[k]? = some y) (hy : y = .sl [] .tight ∨ (∃ b k, y = .ref b 0 k) ∨ ∃ l w, y = .sl l w) (hx : (∃ b k, x = .ref b 0 k) ∨ ∃ l w, x = .sl l w) : storeAt m (.ptr id k 0) x 1 = some ⟨m.blks.set id (.live (es.set k x) 1), m.toks⟩ := by
  rcases hy with rfl | ⟨b, q, rfl⟩ | ⟨l, w, rfl⟩ <;> rcases hx with ⟨b', q', rfl⟩ | ⟨l', w', rfl⟩ <;> (simp only [storeAt, h, hv]; rfl)
theorem asl_ok (c : Ch) {k : Nat} (h1 : 1 ≤ k) (h3 : k ≤ 3) : asliceAt (.pv (encCh c) 0) none (some (I64 (k : Int))) 3 = some (encIs (fromV k c.t)) := by
  have : k = 1 ∨ k = 2 ∨ k = 3 := by omega
  rcases this with rfl | rfl | rfl <;> rfl
theorem makeR_ok (m : Mem) (k : Nat) (h : k ≤ 1000) : makeAt m (.sl [] .tight) 1 24 (I64 (k : Int)) (I64 (k : Int)) = some (.ref m.blks.length 0 k, newBlk m (List.replicate k (.sl [] .tight)) 1) := by
  have : (k * (24 + 1) ≤ limit) := by unfold limit; omega
  simp only [makeAt, asInt, Int.toNat_natCast]
  rw [if_pos ⟨⟨by omega, by first | trivial | rfl⟩, this, by first | trivial | rfl, by first | trivial | rfl⟩]
theorem Explain_no {v : Ev} (hS : SE v) (he : errT v 0 0 ≠ 0) : RV ft 27 [encE v] (.tup [encIss [], I64 (errT v 0 0)]) := by
  refine RV_of ft27 rfl ?_
  simp only [c27, r27]
  simp only [go_sem, Nat.reduceEqDiff, Nat.reduceAdd, Nat.reduceLT, Nat.reduceLeDiff, reduceIte, WB45, WVH_eq (checkTruth_ok hS 0 0), true_and, bne_iff_ne.2 he]
  rfl
theorem Explain_ok {v : Ev} (h : EV4 v) (ht : hasTr v = true) : ∃ ls, (TrL v ls ∧ flT (toV v.pr) v.cs (ls.map toV) = (likV v 0).2) ∧ RV ft 27 [encE v] (.tup [encIss ls, I64 0]) := by
  have hk1 := h.k1
  have hk3 := h.k3
  have hn1 := h.n1
  have hn4 := h.n4
  obtain ⟨π, hπ, hby⟩ := byContent_ok (cs := v.cs) (fun c hc => by have := (h.cs c hc).len; omega) hn1 (by omega)
  obtain ⟨P, hP⟩ : ∃ P : List Int, P = π.map fun n : Nat => (n : Int) := ⟨_, rfl⟩
  rw [← hP] at hby
  have hPl : P.length = v.cs.length := by rw [hP, List.length_map, hπ.length_eq, List.length_range]
  have hπl : π.length = v.cs.length := by rw [hπ.length_eq, List.length_range]
  have key : WR ft (.f 27) [encE v] .nil fun a m => ∃ ls, (TrL v ls ∧ flT (toV v.pr) v.cs (ls.map toV) = (likV v 0).2) ∧ snap m dep a = .tup [encIss ls, I64 0] := by
    rw [WR_f ft27 rfl]
    simp only [c27, r27]
    have hS : SE v := ⟨by omega, by have := h.sl; omega, by have := h.tl; omega, by omega, fun c hc => by have := (h.cs c hc).len; omega⟩
    have hc := checkTruth_ok hS 0 0
    rw [errT00 h ht] at hc
    simp only [go_sem, Nat.reduceEqDiff, Nat.reduceAdd, Nat.reduceLT, Nat.reduceLeDiff, reduceIte, WB45, WVH_eq hc, true_and, bne_self_eq_false, WB46]
    refine truthsOf_W h fun id junk hid => ?_
    have hid0 : 0 < id := by
      cases id with
      | zero => simp at hid
      | succ n => omega
    have tC : (tAV (toV v.se) id v.cs.length).cells = [I64 (toV v.se).x, I64 (toV v.se).y, I64 (toV v.se).z, .ref id 0 v.cs.length] := rfl
    have tA : (tAV (toV v.se) id v.cs.length).isAgg = true := rfl
    have tE : AV.agg [I64 (toV v.se).x, I64 (toV v.se).y, I64 (toV v.se).z, .ref id 0 v.cs.length] = tAV (toV v.se) id v.cs.length := rfl
    have hwc : writeCells (.agg [I64 0, I64 0, I64 0, .sl [] .tight]) 0 [I64 (toV v.se).x, I64 (toV v.se).y, I64 (toV v.se).z, .ref id 0 v.cs.length] = some (tAV (toV v.se) id v.cs.length) := rfl
    obtain ⟨C0, hC0⟩ : ∃ x, x = [Blk.live [encE v] 4] ++ junk := ⟨_, rfl⟩
    rw [← hC0] at hid
    have hidl := (List.getElem?_eq_some_iff.1 hid).1
    have h00 : C0[0]? = some (.live [encE v] 4) := by rw [hC0]; rfl
    have e0 : Blk.live [encE v] 4 :: junk = C0 := by rw [hC0]; rfl
    have gJ : ∀ (j : List Blk) (y : Blk), (j ++ [y])[j.length]? = some y := fun j y => by simp
    have sJ : ∀ (j : List Blk) (y z : Blk), (j ++ [y]).set j.length z = j ++ [z] := fun j y z => by simp
    have g0 : ∀ y : Blk, (C0 ++ [y])[0]? = some (.live [encE v] 4) := fun y => getA h00 _
    have g0' : ∀ y z : Blk, (C0 ++ [y] ++ [z])[0]? = some (.live [encE v] 4) := fun y z => getA (getA h00 _) _
    have hmk := fun m => makeR_ok m v.cs.length (by omega)
    simp only [go_sem, Nat.reduceEqDiff, Nat.reduceAdd, Nat.reduceLT, Nat.reduceLeDiff, reduceIte, e0, tC, tA, tE, hwc, gJ, sJ, g0, g0', ECells, hmk, WB62, WVH_eq hby, true_and]
    obtain ⟨C1, hC1⟩ : ∃ x, x = C0 ++ [Blk.live [tAV (toV v.se) id v.cs.length] 4] := ⟨_, rfl⟩
    rw [← hC1]
    have hC1l : C1.length = C0.length + 1 := by rw [hC1]; simp
    refine WL_inv (α := Nat × TLs × List AV × List Blk) (fun q e mm => e 1 = .ptr 0 0 0 ∧ e 5 = .ptr C0.length 0 0 ∧ e 6 = .ref C1.length 0 v.cs.length ∧ e 24 = encIs P ∧ e 25 = I64 P.length ∧ e 26 = I64 q.1 ∧ q.1 ≤ v.cs.length ∧ ExI v id C0.length C1.length (π.take q.1) q.2.1 q.2.2.1 q.2.2.2 ∧ ∃ tk, mm = ⟨q.2.2.2, tk⟩) (fun q => v.cs.length - q.1)
      (0, (tillsOf v).map fun L => (L, .unk), List.replicate v.cs.length (.sl [] .tight), C1 ++ [.live (List.replicate v.cs.length (.sl [] .tight)) 1]) ?_ ?_
    · simp only [go_sem, Nat.reduceEqDiff, Nat.reduceAdd, Nat.reduceLT, Nat.reduceLeDiff, reduceIte]
      have hfst : ((tillsOf v).map fun L => (L, Tk.unk)).map Prod.fst = v.cs.map (chs (toV v.pr) (toV v.se)) := by
        rw [List.map_map]; unfold tillsOf; rw [List.map_map]; rfl
      refine ⟨by first | trivial | rfl, by first | trivial | rfl, by first | trivial | rfl, by first | trivial | rfl, by first | trivial | rfl, by first | trivial | rfl, by first | trivial | exact Nat.zero_le _, ⟨?_, ?_, ?_, ?_, ?_, ?_, ?_, ?_, ?_, ?_, ?_⟩, _, rfl⟩
      · rw [hC1]; exact getA (getA h00 _) _
      · rw [hC1]; exact getA (by simp) _
      · rw [hC1]; exact getA (getA hid _) _
      · simp
      · unfold tillsOf; simp
      · simp
      · rw [hfst]; exact good0 h ht
      · intro xs hx; rw [hfst] at hx; exact hx
      · intro p hp
        obtain ⟨L, hL, rfl⟩ := List.mem_map.1 hp
        obtain ⟨c, hc, rfl⟩ := List.mem_map.1 hL
        exact chs_B h hc
      · intro r hr
        rw [List.eq_of_mem_replicate hr]
        exact ⟨rfl, .inl rfl⟩
      · intro i hi; simp at hi
    rintro ⟨q, t, rows, bl⟩ e m ⟨g1, g5, g6, g24, g25, g26, hqn, hx, tk, rfl⟩
    dsimp only at g26 hqn hx
    by_cases hlt : q < P.length
    · obtain ⟨i, hi⟩ : ∃ i, π[q]? = some i := ⟨_, List.getElem?_eq_getElem (by omega)⟩
      have hPq : P[q]? = some (i : Int) := by rw [hP, List.getElem?_map, hi]; rfl
      have hin : i < v.cs.length := List.mem_range.1 (hπ.mem_iff.1 (List.mem_of_getElem? hi))
      obtain ⟨⟨L, tkL⟩, hL⟩ : ∃ x, t[i]? = some x := ⟨_, List.getElem?_eq_getElem (by rw [hx.tl]; exact hin)⟩
      have hLt : (t.map Prod.fst)[i]? = some L := by rw [List.getElem?_map, hL]; rfl
      obtain ⟨c, r, hq, hcL, hG⟩ := greedy hx.tg hLt (fun M hM c hc => by
        obtain ⟨p, hp, rfl⟩ := List.mem_map.1 hM
        exact ((hx.tb p hp).2 c hc).f0)
      simp only [go_sem, Nat.reduceEqDiff, Nat.reduceAdd, Nat.reduceLT, Nat.reduceLeDiff, reduceIte, g1, g5, g6, g24, g25, g26, dec_lt hlt, Is_idx hPq, hx.b5, tC, tA, tE, WB47]
      refine likelyN_W hx.tl hx.tb (by rw [hx.tl]; omega) (by have := h.sbd.1; simp only [V3.bd] at this ⊢; omega) hL hx.bi fun w junk toks hA hT => ?_
      rw [hq] at hA
      obtain ⟨tkw, rfl⟩ := hA.sl
      obtain ⟨E, hE⟩ : ∃ E, E = (c :: r).map encCh := ⟨_, rfl⟩
      rw [← hE] at hA ⊢
      have hx2 := hx.ext junk
      obtain ⟨bl', hbl'⟩ : ∃ x, x = bl ++ junk := ⟨_, rfl⟩
      rw [← hbl'] at hx2 ⊢
      have hsl : ∀ m, ∃ tk1, sliceAt m (.sl E tkw) none (some (.int .i64 1)) 5 = some (.sl [encCh c] tk1) := fun m => by
        rw [hE]
        refine ⟨sltk ((c :: r).map encCh) tkw, ?_⟩
        unfold sliceAt
        simp [Chs_hd, bounds, asInt]
        exact ⟨rfl, by omega⟩
      obtain ⟨tk1, hsl1⟩ := hsl ⟨bl', toks⟩
      have f1 : idxAt ⟨bl', toks⟩ (.ref id 0 v.cs.length) (I64 (i : Int)) 1 = some (.ptr id i 0) := idx_own hx2.bi hin
      have f2 : storeAt ⟨bl', toks⟩ (.ptr id i 0) (.sl [encCh c] tk1) 1 = some ⟨bl'.set id (.live (encTL (t.set i ([c], tk1))) 1), toks⟩ := by
        rw [store_any hx2.bi (encTL_get hL) (.inr (.inr ⟨_, _, rfl⟩)) (.inr ⟨_, _, rfl⟩)]
        unfold encTL
        rw [List.map_set]; rfl
      have f3 : ∀ m, idxAt m (.sl E tkw) (.int .i64 0) 5 = some (.pv (encCh c) 0) := fun m => by rw [hE]; exact Chs_idxT (l := c :: r) (k := 0) rfl m
      have s0 : ∀ X, (bl'.set id X)[0]? = some (.live [encE v] 4) := fun X => set_getA hx2.b0 (by omega)
      have hfl : (fromV v.pr.length c.t).length = v.pr.length := fromV_len hk3 _
      have hne : fromV v.pr.length c.t ≠ [] := by intro e; rw [e] at hfl; simp at hfl; omega
      have hshR : ∀ n q k : Nat, Ab.shift n q 12 (.ref 0 0 k) = .ref n 0 k := fun n q k => by show AV.ref (n + 0) 0 k = _; rw [Nat.add_zero]
      have hshB : ∀ (n q : Nat) (l : List Int), shiftB n q 12 (.live (l.map I64) 1) = .live (l.map I64) 1 := fun n q l => by
        show Blk.live ((l.map I64).map (Ab.shift n q 12)) 1 = _
        rw [List.map_map, show Ab.shift n q 12 ∘ I64 = I64 from funext fun _ => rfl]
      simp only [go_sem, Nat.reduceEqDiff, Nat.reduceAdd, Nat.reduceLT, Nat.reduceLeDiff, reduceIte, g1, g5, g6, g24, g25, g26, hx2.b5, tC, tA, hsl1, f1, f2, f3, s0, ECells, asl_ok c hk1 hk3, WB63, snIs]
      refine WR_mono (Clone_run (fromV v.pr.length c.t) hne (by omega)) fun w m hw => ?_
      obtain ⟨rfl, rfl⟩ := hw
      have hst := hx2.step ⟨hid0, hidl, by omega⟩ hin (tk' := tk1) hL hcL hG
      obtain ⟨X, hX⟩ : ∃ X, X = (.live (encTL (t.set i ([c], tk1))) 1 : Blk) := ⟨_, rfl⟩
      rw [← hX] at hst ⊢
      have hsl2 : (bl'.set id X).length = bl'.length := List.length_set
      have k6 : (bl'.set id X ++ [Blk.live ((fromV v.pr.length c.t).map I64) 1])[C1.length]? = some (.live rows 1) := getA (set_getA hx2.b6 (by omega)) _
      obtain ⟨y, hy⟩ : ∃ y, rows[i]? = some y := ⟨_, List.getElem?_eq_getElem (by rw [hx2.rl]; exact hin)⟩
      have hyv := (hx2.rw' y (List.mem_of_getElem? hy)).2
      have f4 : idxAt ⟨bl'.set id X ++ [Blk.live ((fromV v.pr.length c.t).map I64) 1], toks⟩ (.ref C1.length 0 v.cs.length) (I64 (i : Int)) 1 = some (.ptr C1.length i 0) := idx_own k6 hin
      have f5 : storeAt ⟨bl'.set id X ++ [Blk.live ((fromV v.pr.length c.t).map I64) 1], toks⟩ (.ptr C1.length i 0) (.ref bl'.length 0 v.pr.length) 1 = some ⟨(bl'.set id X ++ [Blk.live ((fromV v.pr.length c.t).map I64) 1]).set C1.length (.live (rows.set i (.ref bl'.length 0 v.pr.length)) 1), toks⟩ :=
        store_any k6 hy (hyv.elim .inl fun h => .inr (.inl h)) (.inl ⟨_, _, rfl⟩)
      simp only [go_sem, Nat.reduceEqDiff, Nat.reduceAdd, Nat.reduceLT, Nat.reduceLeDiff, reduceIte, hotIs, joinMem, hshR, hshB, List.map_cons, List.map_nil, List.append_nil, hsl2, hfl, f4, f5, wrap_n1 q (by omega)]
      refine ⟨trivial, ?_⟩
      simp only [go_sem, Nat.reduceEqDiff, Nat.reduceAdd, Nat.reduceLT, Nat.reduceLeDiff, reduceIte, g1, g5, g6, g24, g25, g26, wrap_n1 q (by omega)]
      refine Nx_of (q + 1, t.set i ([c], tk1), rows.set i (.ref bl'.length 0 v.pr.length), (bl'.set id X ++ [Blk.live ((fromV v.pr.length c.t).map I64) 1]).set C1.length (.live (rows.set i (.ref bl'.length 0 v.pr.length)) 1)) (by show v.cs.length - (q + 1) < v.cs.length - q; omega) ?_
      simp only [go_sem, Nat.reduceEqDiff, Nat.reduceAdd, Nat.reduceLT, Nat.reduceLeDiff, reduceIte, g1, g5, g6, g24, g25]
      exact ⟨by first | trivial | rfl, by first | trivial | rfl, by first | trivial | rfl, by first | trivial | rfl, by first | trivial | rfl, by first | trivial | rfl, by first | trivial | omega, hst.sub fun x hx => by
        rw [List.take_add_one, hi] at hx
        simp at hx
        simp
        exact hx.symm, _, rfl⟩
    · have hqe : q = v.cs.length := by omega
      subst hqe
      rw [List.take_of_length_le (by omega)] at hx
      simp only [go_sem, Nat.reduceEqDiff, Nat.reduceAdd, Nat.reduceLT, Nat.reduceLeDiff, reduceIte, g1, g5, g6, g24, g25, g26, dec_ge (show P.length ≤ v.cs.length by omega)]
      obtain ⟨⟨xs, x1, x2, x3⟩, _⟩ := hx.tg
      obtain ⟨y1, y2⟩ := PickC (hx.tp xs x1)
      rw [x2] at y1
      obtain ⟨z1, z2⟩ := tr_list h y1
      refine ⟨(xs.map Ch.t).map (fromV v.pr.length), ⟨z1, by rw [z2, y2, x3]⟩, ?_⟩
      have hxl : xs.length = v.cs.length := by rw [Pick_len x1, List.length_map, hx.tl]
      have hrows : ∀ k, rows.map (snap ⟨bl, tk⟩ (k + 3)) = ((xs.map Ch.t).map (fromV v.pr.length)).map encIs := fun k => by
        refine List.ext_getElem? fun i => ?_
        by_cases hi : i < v.cs.length
        · obtain ⟨c, tk', b, e1, e2, e3, _⟩ := hx.rd i (hπ.mem_iff.2 (List.mem_range.2 hi))
          obtain ⟨x, w1, w2⟩ := Pick_get (L := [c]) x1 (by rw [List.getElem?_map, e1]; rfl)
          simp only [List.mem_singleton] at w2
          subst w2
          rw [List.getElem?_map, e2, List.getElem?_map, List.getElem?_map, List.getElem?_map, w1]
          show some (snap _ (k + 3) (.ref b 0 v.pr.length)) = some (encIs (fromV v.pr.length x.t))
          rw [snap_ref, elems_ref, e3, elBlk_live, if_pos (by rw [List.length_map, fromV_len hk3]; omega), List.drop_zero, List.take_of_length_le (by rw [List.length_map, fromV_len hk3]; omega), snEs_some, snI10 _ (k + 1)]
          rfl
        · rw [List.getElem?_eq_none (by rw [List.length_map, hx.rl]; omega), List.getElem?_eq_none (by simp only [List.length_map]; omega)]
      have h10 : rows.map (snap ⟨bl, tk⟩ 10) = ((xs.map Ch.t).map (fromV v.pr.length)).map encIs := hrows 7
      rw [hx.b6, elBlk_live, if_pos (by rw [hx.rl]; omega), List.drop_zero, List.take_of_length_le (by rw [hx.rl]; omega), snEs_some, h10]
      rfl
  obtain ⟨n, p, e1, ls, hp, e2⟩ := key
  exact ⟨ls, hp, n, by simp only [callV, e1, Option.map_some, e2]⟩
end Go.Ab.T
end
