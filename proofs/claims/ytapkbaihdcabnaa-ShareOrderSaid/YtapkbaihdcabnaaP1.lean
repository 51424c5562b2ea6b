/-
  A part of the proofs over this seat.
  (The texts KsM1 KsK1 KsK2 KsK3, one behind the other.)
-/
import Derived.Test.YtapkbaihdcabnaaA0
import Derived.Test.YtapkbaihdcabnaaT1
set_option linter.unusedSimpArgs false
set_option linter.unusedVariables false
set_option linter.unusedSectionVars false
section
namespace Go.Ab.T
structure Ti where
  fr : Int
  mi : Int
structure Ct where
  film : Int
  fi : Int
  la : Int
  st : List Int
  ti : List Ti
  nut : Int
  ov : Int
  fl : Int
  gu : Int
structure Rp where
  id : Int
  kind : Int
  film : Int
  week : Int
  till : Int
  cents : Int
structure Bk where
  tax : Int
  cs : List Ct
  rs : List Rp
structure Ac where
  gr : Int
  tx : Int
  net : Int
  sh : Int
  ho : Int
  ru : Int
structure Py where
  film : Int
  cents : Int
def inR (n lo hi : Int) : Bool := decide (lo ≤ n) && decide (n ≤ hi)
theorem inR_iff {n lo hi : Int} : inR n lo hi = true ↔ lo ≤ n ∧ n ≤ hi := by unfold inR; simp
def eqT (a b : Ti) : Bool := (a.fr == b.fr) && (a.mi == b.mi)
def eqR (a b : Rp) : Bool := (a.id == b.id) && ((a.kind == b.kind) && ((a.film == b.film) && ((a.week == b.week) && ((a.till == b.till) && (a.cents == b.cents)))))
def eqA (a b : Ac) : Bool := (a.gr == b.gr) && ((a.tx == b.tx) && ((a.net == b.net) && ((a.sh == b.sh) && ((a.ho == b.ho) && (a.ru == b.ru)))))
def eqP (a b : Py) : Bool := (a.film == b.film) && (a.cents == b.cents)
theorem eqT_iff {a b : Ti} : eqT a b = true ↔ a = b := by cases a; cases b; simp [eqT]
theorem eqR_iff {a b : Rp} : eqR a b = true ↔ a = b := by cases a; cases b; simp [eqR]
theorem eqA_iff {a b : Ac} : eqA a b = true ↔ a = b := by cases a; cases b; simp [eqA]
theorem eqA_self (a : Ac) : eqA a a = true := eqA_iff.2 rfl
/-- So many thousandths. -/
def mlr (x m : Int) : Int := (x * m).tdiv 1000
def wkR (n : Int) : Bool := inR n 0 99
def miR (n : Int) : Bool := inR n 0 1000
def taR (n : Int) : Bool := inR n 0 10000000
def tiOK (t : Ti) : Bool := taR t.fr && miR t.mi
def ascT : Option Int → List Ti → Bool
  | _, [] => true
  | p, t :: r => (match p with | none => true | some q => decide (q < t.fr)) && ascT (some t.fr) r
def ctOK (c : Ct) : Bool := inR c.film 0 99 && (wkR c.fi && (wkR c.la && (decide (c.fi ≤ c.la) && (inR (c.st.length : Int) 1 6 && (c.st.all miR && (decide ((c.ti.length : Int) ≤ 4) && (c.ti.all tiOK && (ascT none c.ti && (taR c.nut && (taR c.fl && (miR c.ov && inR c.gu 0 100000000)))))))))))
def findC (f : Int) : List Ct → Option Ct
  | [] => none
  | c :: r => if (c.film == f) = true then some c else findC f r
def onceF : List Ct → List Ct → Bool
  | _, [] => true
  | p, c :: r => (findC c.film p).isNone && onceF (p ++ [c]) r
def bkOK (b : Bk) : Bool := inR b.tax 0 500 && (decide ((b.cs.length : Int) ≤ 6) && (b.cs.all ctOK && onceF [] b.cs))
def rpOK (cs : List Ct) (r : Rp) : Bool := match findC r.film cs with
  | none => false
  | some c => inR r.week c.fi c.la && (inR r.id 0 99 && ((r.kind == 1 || r.kind == 2) && (inR r.till 0 9 && taR r.cents)))
/-- Some report clashes with one before it. -/
def clsh : List Rp → List Rp → Bool
  | _, [] => false
  | p, r :: q => p.any (fun x => x.id == r.id && !eqR x r) || clsh (p ++ [r]) q
def rsOK (cs : List Ct) (l : List Rp) : Bool := decide ((l.length : Int) ≤ 40) && l.all (rpOK cs)
def chk (b : Bk) : Int := if bkOK b = true then (if (rsOK b.cs b.rs && !clsh [] b.rs) = true then 0 else 81) else 80
/-! ### The gross -/
def better (a : Option Rp) (r : Rp) : Option Rp := match a with
  | none => some r
  | some x => if x.id < r.id then some r else some x
def pickG (p : Rp → Bool) (a : Option Rp) (l : List Rp) : Option Rp := l.foldl (fun a r => if p r = true then better a r else a) a
def pick (p : Rp → Bool) (l : List Rp) : Option Rp := pickG p none l
def isOf (f w : Int) (r : Rp) : Bool := r.film == f && r.week == w
def audP (f w : Int) (r : Rp) : Bool := isOf f w r && r.kind == 2
def tilP (f w t : Int) (r : Rp) : Bool := isOf f w r && (!(r.kind == 2) && r.till == t)
def sumT (g : Nat → Int) : Nat → Int
  | 0 => 0
  | n + 1 => sumT g n + g n
def tilC (l : List Rp) (f w : Int) (t : Nat) : Int := match pick (tilP f w t) l with | some r => r.cents | none => 0
def gross (l : List Rp) (f w : Int) : Int := match pick (audP f w) l with | some r => r.cents | none => sumT (tilC l f w) 10
/-! ### The account -/
def milG (net : Int) (a : Int) (l : List Ti) : Int := l.foldl (fun m t => if t.fr ≤ net then max m t.mi else m) a
def stepOf (c : Ct) (w : Int) : Int := c.st.getD (min (w - c.fi) ((c.st.length : Int) - 1)).toNat 0
def mille (c : Ct) (w net : Int) : Int := milG net (stepOf c w) c.ti
def netOf (tax g : Int) : Int := g - mlr g tax
def sh1 (c : Ct) (w n : Int) : Int := mlr n (mille c w n)
def sh2 (c : Ct) (n : Int) : Int := mlr (max 0 (n - c.nut)) c.ov
def most (c : Ct) (w n : Int) : Int := max (max (sh1 c w n) (sh2 c n)) c.fl
def ruleOf (c : Ct) (w n : Int) : Int := if (most c w n == sh1 c w n) = true then 1 else if (most c w n == sh2 c n) = true then 2 else 3
def settle (tax : Int) (c : Ct) (w g : Int) : Ac := ⟨g, mlr g tax, netOf tax g, min (most c w (netOf tax g)) (netOf tax g), netOf tax g - min (most c w (netOf tax g)) (netOf tax g), ruleOf c w (netOf tax g)⟩
def acc (b : Bk) (c : Ct) (w : Int) : Ac := settle b.tax c w (gross b.rs c.film w)
def shSum (b : Bk) (c : Ct) : Nat → Int
  | 0 => 0
  | n + 1 => shSum b c n + (acc b c (c.fi + n)).sh
def dueM (b : Bk) (c : Ct) (w : Int) : Int := if w < c.la then shSum b c (w - c.fi + 1).toNat else max (shSum b c (c.la - c.fi + 1).toNat) c.gu
def zA : Ac := ⟨0, 0, 0, 0, 0, 0⟩
/-! ### What is valid -/
structure CV (c : Ct) : Prop where
  f0 : 0 ≤ c.film
  f1 : c.film ≤ 99
  a0 : 0 ≤ c.fi
  a1 : c.fi ≤ c.la
  a2 : c.la ≤ 99
  s0 : 1 ≤ c.st.length
  s1 : c.st.length ≤ 6
  sm : ∀ x ∈ c.st, 0 ≤ x ∧ x ≤ 1000
  t1 : c.ti.length ≤ 4
  tm : ∀ t ∈ c.ti, (0 ≤ t.fr ∧ t.fr ≤ 10000000) ∧ (0 ≤ t.mi ∧ t.mi ≤ 1000)
  n0 : 0 ≤ c.nut
  n1 : c.nut ≤ 10000000
  o0 : 0 ≤ c.ov
  o1 : c.ov ≤ 1000
  l0 : 0 ≤ c.fl
  l1 : c.fl ≤ 10000000
  g0 : 0 ≤ c.gu
  g1 : c.gu ≤ 100000000
theorem ctOK_CV {c : Ct} (h : ctOK c = true) : CV c := by
  simp only [ctOK, Bool.and_eq_true, inR_iff, wkR, taR, miR, decide_eq_true_eq, List.all_eq_true, tiOK] at h
  obtain ⟨⟨h1, h2⟩, ⟨h3, _⟩, ⟨_, h4⟩, h5, ⟨h6, h7⟩, h8, h9, h10, _, ⟨h11, h12⟩, ⟨h13, h14⟩, ⟨h15, h16⟩, h17, h18⟩ := h
  exact ⟨h1, h2, h3, h5, h4, by omega, by omega, h8, by omega, h10, h11, h12, h15, h16, h13, h14, h17, h18⟩
structure RV' (r : Rp) : Prop where
  i0 : 0 ≤ r.id
  i1 : r.id ≤ 99
  k : r.kind = 1 ∨ r.kind = 2
  t0 : 0 ≤ r.till
  t1 : r.till ≤ 9
  c0 : 0 ≤ r.cents
  c1 : r.cents ≤ 10000000
theorem rpOK_RV {cs : List Ct} {r : Rp} (h : rpOK cs r = true) : RV' r := by
  unfold rpOK at h
  split at h
  · cases h
  · simp only [Bool.and_eq_true, inR_iff, taR, Bool.or_eq_true, beq_iff_eq] at h
    obtain ⟨_, h2, h3, h4, h5⟩ := h
    exact ⟨h2.1, h2.2, h3, h4.1, h4.2, h5.1, h5.2⟩
theorem findC_mem {f : Int} {c : Ct} : ∀ {l : List Ct}, findC f l = some c → c ∈ l ∧ c.film = f
  | [], h => by cases h
  | x :: l, h => by
    unfold findC at h
    split at h
    · rename_i hx
      cases h
      exact ⟨by simp, by simpa using hx⟩
    · exact ⟨List.mem_cons_of_mem _ (findC_mem h).1, (findC_mem h).2⟩
structure BV (b : Bk) : Prop where
  x0 : 0 ≤ b.tax
  x1 : b.tax ≤ 500
  cl : b.cs.length ≤ 6
  cv : ∀ c ∈ b.cs, CV c
  co : onceF [] b.cs = true
  rl : b.rs.length ≤ 40
  ro : ∀ r ∈ b.rs, rpOK b.cs r = true
  rc : clsh [] b.rs = false
theorem BV.rv {b : Bk} (h : BV b) : ∀ r ∈ b.rs, RV' r := fun r hr => rpOK_RV (h.ro r hr)
theorem chk_BV {b : Bk} (h : chk b = 0) : BV b := by
  unfold chk at h
  split at h
  · rename_i h1
    split at h
    · rename_i h2
      simp only [bkOK, Bool.and_eq_true, inR_iff, decide_eq_true_eq, List.all_eq_true] at h1
      simp only [rsOK, Bool.and_eq_true, decide_eq_true_eq, List.all_eq_true, Bool.not_eq_true'] at h2
      exact ⟨h1.1.1, h1.1.2, by omega, fun c hc => ctOK_CV (h1.2.2.1 c hc), h1.2.2.2, by omega, h2.1.2, h2.2⟩
    · cases h
  · cases h
/-! ### Bounds -/
theorem mlr_bound {x m : Int} (h0 : 0 ≤ x) (hm : 0 ≤ m) (hm2 : m ≤ 1000) : 0 ≤ mlr x m ∧ mlr x m ≤ x ∧ 0 ≤ x * m ∧ x * m ≤ x * 1000 := by
  have h1 : 0 ≤ x * m := Int.mul_nonneg h0 hm
  have h2 : x * m ≤ x * 1000 := Int.mul_le_mul_of_nonneg_left hm2 h0
  unfold mlr
  rw [Int.tdiv_eq_ediv_of_nonneg h1]
  omega
theorem milG_bound {net : Int} : ∀ {l : List Ti} {a : Int}, (∀ t ∈ l, (0 ≤ t.fr ∧ t.fr ≤ 10000000) ∧ (0 ≤ t.mi ∧ t.mi ≤ 1000)) → 0 ≤ a ∧ a ≤ 1000 → 0 ≤ milG net a l ∧ milG net a l ≤ 1000
  | [], a, _, h => h
  | t :: l, a, ht, h => by
    have := (ht t (by simp)).2
    refine milG_bound (l := l) (fun t h => ht t (by simp [h])) ?_
    dsimp only
    split <;> omega
theorem stepOf_bound {c : Ct} (h : CV c) (w : Int) : 0 ≤ stepOf c w ∧ stepOf c w ≤ 1000 := by
  unfold stepOf
  rw [List.getD_eq_getElem?_getD]
  cases hk : c.st[(min (w - c.fi) ((c.st.length : Int) - 1)).toNat]? with
  | none => simp
  | some x => exact h.sm x (List.mem_of_getElem? hk)
theorem mille_bound {c : Ct} (h : CV c) (w n : Int) : 0 ≤ mille c w n ∧ mille c w n ≤ 1000 := milG_bound h.tm (stepOf_bound h w)
theorem net_bound {tax g : Int} (h0 : 0 ≤ tax) (h1 : tax ≤ 500) (hg : 0 ≤ g) : 0 ≤ netOf tax g ∧ netOf tax g ≤ g := by
  have := mlr_bound hg h0 (by omega : tax ≤ 1000)
  unfold netOf; omega
theorem sh1_bound {c : Ct} (h : CV c) {w n : Int} (hn : 0 ≤ n) : 0 ≤ sh1 c w n ∧ sh1 c w n ≤ n := by
  have h1 := mille_bound h w n
  have := mlr_bound hn h1.1 h1.2
  exact ⟨this.1, this.2.1⟩
theorem sh2_bound {c : Ct} (h : CV c) {n : Int} (hn : 0 ≤ n) : 0 ≤ sh2 c n ∧ sh2 c n ≤ n := by
  have := mlr_bound (x := max 0 (n - c.nut)) (by omega) h.o0 h.o1
  have h2 := h.n0
  unfold sh2; omega
/-- What holds of an account. -/
theorem settle_bound {tax : Int} (h0 : 0 ≤ tax) (h1 : tax ≤ 500) {c : Ct} (h : CV c) {w g : Int} (hg : 0 ≤ g) :
    (settle tax c w g).gr = (settle tax c w g).tx + (settle tax c w g).net ∧ (settle tax c w g).net = (settle tax c w g).sh + (settle tax c w g).ho ∧ 0 ≤ (settle tax c w g).tx ∧ 0 ≤ (settle tax c w g).net ∧ (settle tax c w g).net ≤ g ∧ 0 ≤ (settle tax c w g).sh ∧ 0 ≤ (settle tax c w g).ho := by
  have hn := net_bound h0 h1 hg
  have ht := mlr_bound hg h0 (by omega : tax ≤ 1000)
  have a1 := sh1_bound h (w := w) hn.1
  have a2 := sh2_bound h hn.1
  have a3 := h.l0
  simp only [settle, most]
  refine ⟨?_, ?_, ht.1, hn.1, hn.2, ?_, ?_⟩
  · unfold netOf; omega
  all_goals omega
theorem pickG_mem {p : Rp → Bool} : ∀ {l : List Rp} {a : Option Rp} {r : Rp}, pickG p a l = some r → a = some r ∨ (r ∈ l ∧ p r = true)
  | [], a, r, h => .inl h
  | x :: l, a, r, h => by
    have h : pickG p (if p x = true then better a x else a) l = some r := h
    rcases pickG_mem h with h1 | h1
    · split at h1
      · rename_i hp
        unfold better at h1
        split at h1
        · cases h1; exact .inr ⟨by simp, hp⟩
        · split at h1
          · cases h1; exact .inr ⟨by simp, hp⟩
          · exact .inl h1
      · exact .inl h1
    · exact .inr ⟨by simp [h1.1], h1.2⟩
theorem pick_mem {p : Rp → Bool} {l : List Rp} {r : Rp} (h : pick p l = some r) : r ∈ l ∧ p r = true := (pickG_mem h).resolve_left (by simp)
theorem tilC_bound {l : List Rp} (hl : ∀ r ∈ l, RV' r) (f w : Int) (t : Nat) : 0 ≤ tilC l f w t ∧ tilC l f w t ≤ 10000000 := by
  unfold tilC
  split
  · rename_i r hr
    have := hl r (pick_mem hr).1
    exact ⟨this.c0, this.c1⟩
  · omega
theorem sumT_bound {g : Nat → Int} {B : Int} : ∀ n : Nat, (∀ t, t < n → 0 ≤ g t ∧ g t ≤ B) → 0 ≤ sumT g n ∧ sumT g n ≤ n * B
  | 0, _ => by simp [sumT]
  | n + 1, h => by
    have h1 := sumT_bound n fun t ht => h t (by omega)
    have h2 := h n (by omega)
    simp only [sumT]
    rw [show ((n + 1 : Nat) : Int) * B = n * B + B by rw [Int.natCast_add, Int.add_mul]; simp]
    omega
theorem gross_bound {l : List Rp} (hl : ∀ r ∈ l, RV' r) (f w : Int) : 0 ≤ gross l f w ∧ gross l f w ≤ 100000000 := by
  unfold gross
  split
  · rename_i r hr
    have := hl r (pick_mem hr).1
    exact ⟨this.c0, by have := this.c1; omega⟩
  · have := sumT_bound (g := tilC l f w) (B := 10000000) 10 fun t _ => tilC_bound hl f w t
    omega
theorem acc_bound {b : Bk} (hb : BV b) {c : Ct} (hc : CV c) (w : Int) : 0 ≤ (acc b c w).sh ∧ (acc b c w).sh ≤ 100000000 := by
  have h1 := gross_bound hb.rv c.film w
  have h2 := settle_bound hb.x0 hb.x1 hc (w := w) h1.1
  have e : acc b c w = settle b.tax c w (gross b.rs c.film w) := rfl
  rw [← e] at h2
  omega
theorem shSum_bound {b : Bk} (hb : BV b) {c : Ct} (hc : CV c) : ∀ n : Nat, 0 ≤ shSum b c n ∧ shSum b c n ≤ n * 100000000
  | 0 => by simp [shSum]
  | n + 1 => by
    have h1 := shSum_bound hb hc n
    have h2 := acc_bound hb hc (c.fi + n)
    simp only [shSum]
    omega
theorem milG_cons (net a : Int) (t : Ti) (l : List Ti) : milG net a (t :: l) = milG net (if t.fr ≤ net then max a t.mi else a) l := rfl
end Go.Ab.T
end

section
namespace Go.Ab.T
set_option maxRecDepth 8000
set_option maxHeartbeats 4000000
def encT (t : Ti) : AV := .agg [I64 t.fr, I64 t.mi]
theorem TCells (t : Ti) : (encT t).cells = [I64 t.fr, I64 t.mi] := rfl
theorem TEta (t : Ti) : AV.agg [I64 t.fr, I64 t.mi] = encT t := rfl
theorem snT (m : Mem) (q : Nat) (t : Ti) : snap m (q + 2) (encT t) = encT t := rfl
theorem hotT (q : Nat) (t : Ti) : hot (q + 2) (encT t) = false := rfl
def encR (r : Rp) : AV := .agg [I64 r.id, I64 r.kind, I64 r.film, I64 r.week, I64 r.till, I64 r.cents]
theorem RCells (r : Rp) : (encR r).cells = [I64 r.id, I64 r.kind, I64 r.film, I64 r.week, I64 r.till, I64 r.cents] := rfl
theorem REta (r : Rp) : AV.agg [I64 r.id, I64 r.kind, I64 r.film, I64 r.week, I64 r.till, I64 r.cents] = encR r := rfl
theorem snR (m : Mem) (q : Nat) (r : Rp) : snap m (q + 2) (encR r) = encR r := rfl
theorem hotR (q : Nat) (r : Rp) : hot (q + 2) (encR r) = false := rfl
def encA (a : Ac) : AV := .agg [I64 a.gr, I64 a.tx, I64 a.net, I64 a.sh, I64 a.ho, I64 a.ru]
theorem ACells (a : Ac) : (encA a).cells = [I64 a.gr, I64 a.tx, I64 a.net, I64 a.sh, I64 a.ho, I64 a.ru] := rfl
theorem AEta (a : Ac) : AV.agg [I64 a.gr, I64 a.tx, I64 a.net, I64 a.sh, I64 a.ho, I64 a.ru] = encA a := rfl
theorem snA (m : Mem) (q : Nat) (a : Ac) : snap m (q + 2) (encA a) = encA a := rfl
theorem hotA (q : Nat) (a : Ac) : hot (q + 2) (encA a) = false := rfl
def encP (p : Py) : AV := .agg [I64 p.film, I64 p.cents]
theorem PCells (p : Py) : (encP p).cells = [I64 p.film, I64 p.cents] := rfl
theorem PEta (p : Py) : AV.agg [I64 p.film, I64 p.cents] = encP p := rfl
theorem snP (m : Mem) (q : Nat) (p : Py) : snap m (q + 2) (encP p) = encP p := rfl
theorem hotP (q : Nat) (p : Py) : hot (q + 2) (encP p) = false := rfl
def encIs (l : List Int) : AV := .sl (l.map I64) .unk
theorem IsCells (l : List Int) : (encIs l).cells = [encIs l] := rfl
theorem IsSolid (l : List Int) : (encIs l).solid = true := rfl
theorem IsAgg (l : List Int) : (encIs l).isAgg = false := rfl
theorem Is_len (m : Mem) (l : List Int) : lenAt m (encIs l) = some (I64 l.length) := by unfold encIs; rw [lenAt_sl, List.length_map]
theorem Is_get (l : List Int) (k : Nat) : (l.map I64)[k]? = l[k]?.map I64 := List.getElem?_map
theorem Is_idx {l : List Int} {k : Nat} {x : Int} (h : l[k]? = some x) (m : Mem) : idxAt m (encIs l) (I64 (k : Int)) 1 = some (.pv (I64 x) 0) := by
  unfold encIs
  rw [idxAt_sl, if_pos (by omega), Int.toNat_natCast, Is_get, h]
  rfl
theorem Is_idxI {l : List Int} {n : Int} {x : Int} (h0 : 0 ≤ n) (h : l[n.toNat]? = some x) (m : Mem) : idxAt m (encIs l) (I64 n) 1 = some (.pv (I64 x) 0) := by
  have := Is_idx h m
  rwa [Int.toNat_of_nonneg h0] at this
theorem snIs (m : Mem) (q : Nat) (l : List Int) : snap m (q + 2) (encIs l) = encIs l := by
  show AV.sl ((l.map I64).map (snap m (q + 1))) .unk = _
  rw [List.map_map, show snap m (q + 1) ∘ I64 = I64 from funext (fun _ => rfl)]; rfl
theorem hotIs (q : Nat) (l : List Int) : hot (q + 2) (encIs l) = false := by
  show (l.map I64).any (hot (q + 1)) = false
  rw [List.any_map, List.any_eq_false]; intro x _; simp only [Function.comp]; rw [show hot (q + 1) (I64 x) = false from rfl]; decide
def encTs (l : List Ti) : AV := .sl (l.map encT) .unk
theorem TsCells (l : List Ti) : (encTs l).cells = [encTs l] := rfl
theorem TsSolid (l : List Ti) : (encTs l).solid = true := rfl
theorem TsAgg (l : List Ti) : (encTs l).isAgg = false := rfl
theorem Ts_len (m : Mem) (l : List Ti) : lenAt m (encTs l) = some (I64 l.length) := by unfold encTs; rw [lenAt_sl, List.length_map]
theorem Ts_get (l : List Ti) (k : Nat) : (l.map encT)[k]? = l[k]?.map encT := List.getElem?_map
theorem Ts_idx {l : List Ti} {k : Nat} {x : Ti} (h : l[k]? = some x) (m : Mem) : idxAt m (encTs l) (I64 (k : Int)) 2 = some (.pv (encT x) 0) := by
  unfold encTs
  rw [idxAt_sl, if_pos (by omega), Int.toNat_natCast, Ts_get, h]
  rfl
theorem snTs (m : Mem) (q : Nat) (l : List Ti) : snap m (q + 3) (encTs l) = encTs l := by
  show AV.sl ((l.map encT).map (snap m (q + 2))) .unk = _
  rw [List.map_map, show snap m (q + 2) ∘ encT = encT from funext (fun t => snT m q t)]; rfl
theorem hotTs (q : Nat) (l : List Ti) : hot (q + 3) (encTs l) = false := by
  show (l.map encT).any (hot (q + 2)) = false
  rw [List.any_map, List.any_eq_false]; intro x _; simp only [Function.comp]; rw [show hot (q + 2) (encT x) = false from hotT q x]; decide
def encRs (l : List Rp) : AV := .sl (l.map encR) .unk
theorem RsCells (l : List Rp) : (encRs l).cells = [encRs l] := rfl
theorem RsSolid (l : List Rp) : (encRs l).solid = true := rfl
theorem RsAgg (l : List Rp) : (encRs l).isAgg = false := rfl
theorem Rs_len (m : Mem) (l : List Rp) : lenAt m (encRs l) = some (I64 l.length) := by unfold encRs; rw [lenAt_sl, List.length_map]
theorem Rs_get (l : List Rp) (k : Nat) : (l.map encR)[k]? = l[k]?.map encR := List.getElem?_map
theorem Rs_idx {l : List Rp} {k : Nat} {x : Rp} (h : l[k]? = some x) (m : Mem) : idxAt m (encRs l) (I64 (k : Int)) 6 = some (.pv (encR x) 0) := by
  unfold encRs
  rw [idxAt_sl, if_pos (by omega), Int.toNat_natCast, Rs_get, h]
  rfl
theorem snRs (m : Mem) (q : Nat) (l : List Rp) : snap m (q + 3) (encRs l) = encRs l := by
  show AV.sl ((l.map encR).map (snap m (q + 2))) .unk = _
  rw [List.map_map, show snap m (q + 2) ∘ encR = encR from funext (fun t => snR m q t)]; rfl
theorem hotRs (q : Nat) (l : List Rp) : hot (q + 3) (encRs l) = false := by
  show (l.map encR).any (hot (q + 2)) = false
  rw [List.any_map, List.any_eq_false]; intro x _; simp only [Function.comp]; rw [show hot (q + 2) (encR x) = false from hotR q x]; decide
def encPs (l : List Py) : AV := .sl (l.map encP) .unk
theorem PsCells (l : List Py) : (encPs l).cells = [encPs l] := rfl
theorem PsSolid (l : List Py) : (encPs l).solid = true := rfl
theorem PsAgg (l : List Py) : (encPs l).isAgg = false := rfl
theorem Ps_len (m : Mem) (l : List Py) : lenAt m (encPs l) = some (I64 l.length) := by unfold encPs; rw [lenAt_sl, List.length_map]
theorem snPs (m : Mem) (q : Nat) (l : List Py) : snap m (q + 3) (encPs l) = encPs l := by
  show AV.sl ((l.map encP).map (snap m (q + 2))) .unk = _
  rw [List.map_map, show snap m (q + 2) ∘ encP = encP from funext (fun t => snP m q t)]; rfl
theorem hotPs (q : Nat) (l : List Py) : hot (q + 3) (encPs l) = false := by
  show (l.map encP).any (hot (q + 2)) = false
  rw [List.any_map, List.any_eq_false]; intro x _; simp only [Function.comp]; rw [show hot (q + 2) (encP x) = false from hotP q x]; decide
def encC (c : Ct) : AV := .agg [I64 c.film, I64 c.fi, I64 c.la, encIs c.st, encTs c.ti, I64 c.nut, I64 c.ov, I64 c.fl, I64 c.gu]
theorem CCells (c : Ct) : (encC c).cells = [I64 c.film, I64 c.fi, I64 c.la, encIs c.st, encTs c.ti, I64 c.nut, I64 c.ov, I64 c.fl, I64 c.gu] := rfl
theorem CEta (c : Ct) : AV.agg [I64 c.film, I64 c.fi, I64 c.la, encIs c.st, encTs c.ti, I64 c.nut, I64 c.ov, I64 c.fl, I64 c.gu] = encC c := rfl
theorem snC (m : Mem) (q : Nat) (c : Ct) : snap m (q + 4) (encC c) = encC c := by
  show AV.agg [I64 c.film, I64 c.fi, I64 c.la, snap m (q + 3) (encIs c.st), snap m (q + 3) (encTs c.ti), I64 c.nut, I64 c.ov, I64 c.fl, I64 c.gu] = _
  rw [snIs, snTs]; rfl
theorem hotC (q : Nat) (c : Ct) : hot (q + 4) (encC c) = false := by
  show (false || (false || (false || (hot (q + 3) (encIs c.st) || (hot (q + 3) (encTs c.ti) || false))))) = false
  rw [hotIs, hotTs]; rfl
def encCs (l : List Ct) : AV := .sl (l.map encC) .unk
theorem CsCells (l : List Ct) : (encCs l).cells = [encCs l] := rfl
theorem CsSolid (l : List Ct) : (encCs l).solid = true := rfl
theorem CsAgg (l : List Ct) : (encCs l).isAgg = false := rfl
theorem Cs_len (m : Mem) (l : List Ct) : lenAt m (encCs l) = some (I64 l.length) := by unfold encCs; rw [lenAt_sl, List.length_map]
theorem Cs_get (l : List Ct) (k : Nat) : (l.map encC)[k]? = l[k]?.map encC := List.getElem?_map
theorem Cs_idx {l : List Ct} {k : Nat} {x : Ct} (h : l[k]? = some x) (m : Mem) : idxAt m (encCs l) (I64 (k : Int)) 9 = some (.pv (encC x) 0) := by
  unfold encCs
  rw [idxAt_sl, if_pos (by omega), Int.toNat_natCast, Cs_get, h]
  rfl
theorem snCs (m : Mem) (q : Nat) (l : List Ct) : snap m (q + 5) (encCs l) = encCs l := by
  show AV.sl ((l.map encC).map (snap m (q + 4))) .unk = _
  rw [List.map_map, show snap m (q + 4) ∘ encC = encC from funext (fun t => snC m q t)]; rfl
theorem hotCs (q : Nat) (l : List Ct) : hot (q + 5) (encCs l) = false := by
  show (l.map encC).any (hot (q + 4)) = false
  rw [List.any_map, List.any_eq_false]; intro x _; simp only [Function.comp]; rw [show hot (q + 4) (encC x) = false from hotC q x]; decide
def encB (b : Bk) : AV := .agg [I64 b.tax, encCs b.cs, encRs b.rs]
theorem BCells (b : Bk) : (encB b).cells = [I64 b.tax, encCs b.cs, encRs b.rs] := rfl
theorem BEta (b : Bk) : AV.agg [I64 b.tax, encCs b.cs, encRs b.rs] = encB b := rfl
theorem snB (m : Mem) (q : Nat) (b : Bk) : snap m (q + 6) (encB b) = encB b := by
  show AV.agg [I64 b.tax, snap m (q + 5) (encCs b.cs), snap m (q + 5) (encRs b.rs)] = _
  rw [snCs, snRs]; rfl
theorem hotB (q : Nat) (b : Bk) : hot (q + 6) (encB b) = false := by
  show (false || (hot (q + 5) (encCs b.cs) || (hot (q + 5) (encRs b.rs) || false))) = false
  rw [hotCs, hotRs]; rfl
theorem eqvT (a b : Ti) : eqAV true [.i, .i] (encT a) (encT b) = some (eqT a b) := by
  show eqs [.i, .i] [.int .i64 a.fr, .int .i64 a.mi] [.int .i64 b.fr, .int .i64 b.mi] = _
  simp only [eqs_i, eqs_nil, Option.map_some, Bool.and_true]; rfl
theorem eqvP (a b : Py) : eqAV true [.i, .i] (encP a) (encP b) = some (eqP a b) := by
  show eqs [.i, .i] [.int .i64 a.film, .int .i64 a.cents] [.int .i64 b.film, .int .i64 b.cents] = _
  simp only [eqs_i, eqs_nil, Option.map_some, Bool.and_true]; rfl
theorem eqvR (a b : Rp) : eqAV true [.i, .i, .i, .i, .i, .i] (encR a) (encR b) = some (eqR a b) := by
  show eqs [.i, .i, .i, .i, .i, .i] [.int .i64 a.id, .int .i64 a.kind, .int .i64 a.film, .int .i64 a.week, .int .i64 a.till, .int .i64 a.cents] [.int .i64 b.id, .int .i64 b.kind, .int .i64 b.film, .int .i64 b.week, .int .i64 b.till, .int .i64 b.cents] = _
  simp only [eqs_i, eqs_nil, Option.map_some, Bool.and_true]; rfl
theorem eqvA (a b : Ac) : eqAV true [.i, .i, .i, .i, .i, .i] (encA a) (encA b) = some (eqA a b) := by
  show eqs [.i, .i, .i, .i, .i, .i] [.int .i64 a.gr, .int .i64 a.tx, .int .i64 a.net, .int .i64 a.sh, .int .i64 a.ho, .int .i64 a.ru] [.int .i64 b.gr, .int .i64 b.tx, .int .i64 b.net, .int .i64 b.sh, .int .i64 b.ho, .int .i64 b.ru] = _
  simp only [eqs_i, eqs_nil, Option.map_some, Bool.and_true]; rfl
attribute [go_sem] TCells RCells ACells PCells CCells BCells TEta REta AEta PEta CEta BEta IsCells TsCells RsCells PsCells CsCells IsSolid TsSolid RsSolid PsSolid CsSolid IsAgg TsAgg RsAgg PsAgg CsAgg Is_len Ts_len Rs_len Ps_len Cs_len
attribute [go_sem] snT snR snA snP snC snB snIs snTs snRs snPs snCs hotT hotR hotA hotP hotC hotB hotIs hotTs hotRs hotPs hotCs eqvT eqvP eqvR eqvA
theorem wrap_n1 (k : Nat) (h : k < 4611686018427387904) : IntKind.i64.wrap ((k : Int) + 1) = ((k + 1 : Nat) : Int) := by rw [wrap_i64 _ (by omega) (by omega)]; omega
theorem within_ok (n lo hi : Int) : RV ft 55 [I64 n, I64 lo, I64 hi] (.bool (inR n lo hi)) := by
  refine RV_of ft55 rfl ?_
  simp only [c55, r55]
  unfold inR
  cases h : decide (lo ≤ n) <;> simp only [go_sem, Nat.reduceEqDiff, Nat.reduceAdd, Nat.reduceLT, Nat.reduceLeDiff, reduceIte, h]
theorem isWithin_ok (n lo hi : Int) : RV ft 69 [I64 n, I64 lo, I64 hi] (.bool (inR n lo hi)) := by
  refine RV_of ft69 rfl ?_
  simp only [c69, r69]
  unfold inR
  cases h : decide (lo ≤ n) <;> simp only [go_sem, Nat.reduceEqDiff, Nat.reduceAdd, Nat.reduceLT, Nat.reduceLeDiff, reduceIte, h]
theorem isWeek_ok (n : Int) : RV ft 47 [I64 n] (.bool (wkR n)) := by
  refine RV_of ft47 rfl ?_
  simp only [c47, r47]
  simp only [go_sem, Nat.reduceEqDiff, Nat.reduceAdd, Nat.reduceLT, Nat.reduceLeDiff, reduceIte, WB69, WVH_eq (isWithin_ok _ _ _), true_and]
  rfl
theorem isMille_ok (n : Int) : RV ft 110 [I64 n] (.bool (miR n)) := by
  refine RV_of ft110 rfl ?_
  simp only [c110, r110]
  simp only [go_sem, Nat.reduceEqDiff, Nat.reduceAdd, Nat.reduceLT, Nat.reduceLeDiff, reduceIte, WB69, WVH_eq (isWithin_ok _ _ _), true_and]
  rfl
theorem isTake_ok (n : Int) : RV ft 59 [I64 n] (.bool (taR n)) := by
  refine RV_of ft59 rfl ?_
  simp only [c59, r59]
  simp only [go_sem, Nat.reduceEqDiff, Nat.reduceAdd, Nat.reduceLT, Nat.reduceLeDiff, reduceIte, WB69, WVH_eq (isWithin_ok _ _ _), true_and]
  rfl
theorem hasWeek_ok (c : Ct) (n : Int) : RV ft 42 [encC c, I64 n] (.bool (inR n c.fi c.la)) := by
  refine RV_of ft42 rfl ?_
  simp only [c42, r42]
  simp only [go_sem, Nat.reduceEqDiff, Nat.reduceAdd, Nat.reduceLT, Nat.reduceLeDiff, reduceIte, WB69, WVH_eq (isWithin_ok _ _ _), true_and]
theorem part_ok (x m : Int) (h1 : -1000000000000000 ≤ x * m) (h2 : x * m ≤ 1000000000000000) : RV ft 88 [I64 x, I64 m] (I64 (mlr x m)) := by
  refine RV_of ft88 rfl ?_
  simp only [c88, r88]
  have w1 : IntKind.i64.wrap (x * m) = x * m := wrap_i64 _ (by omega) (by omega)
  have hb : -1000000000000000 ≤ (x * m).tdiv 1000 ∧ (x * m).tdiv 1000 ≤ 1000000000000000 := by
    generalize x * m = y at h1 h2
    rcases Int.le_total 0 y with h | h
    · rw [Int.tdiv_eq_ediv_of_nonneg h]; omega
    · have e : y.tdiv 1000 = -((-y) / 1000) := by
        rw [← Int.tdiv_eq_ediv_of_nonneg (by omega : 0 ≤ -y), Int.neg_tdiv]; omega
      omega
  have w2 : IntKind.i64.wrap ((x * m).tdiv 1000) = (x * m).tdiv 1000 := wrap_i64 _ (by omega) (by omega)
  simp only [go_sem, Nat.reduceEqDiff, Nat.reduceAdd, Nat.reduceLT, Nat.reduceLeDiff, reduceIte, w1, w2, show decide ((1000 : Int) = 0) = false from rfl]
  rfl
theorem validTier_ok (t : Ti) : RV ft 112 [encT t] (.bool (tiOK t)) := by
  refine RV_of ft112 rfl ?_
  simp only [c112, r112]
  unfold tiOK
  cases h1 : taR t.fr
  · simp only [go_sem, Nat.reduceEqDiff, Nat.reduceAdd, Nat.reduceLT, Nat.reduceLeDiff, reduceIte, WB59, WVH_eq (isTake_ok _), h1, true_and]
  · simp only [go_sem, Nat.reduceEqDiff, Nat.reduceAdd, Nat.reduceLT, Nat.reduceLeDiff, reduceIte, WB59, WVH_eq (isTake_ok _), h1, WB110, WVH_eq (isMille_ok _), true_and]
end Go.Ab.T
end

section
namespace Go.Ab.T
set_option maxRecDepth 8000
set_option maxHeartbeats 4000000
/-- The first place where something is so, -1 if there is none. -/
def idxP {α : Type} (p : α → Bool) : List α → Nat → Int
  | [], _ => -1
  | x :: r, k => if p x = true then (k : Int) else idxP p r (k + 1)
theorem idxP_any {α : Type} (p : α → Bool) : ∀ (l : List α) (k : Nat), decide (0 ≤ idxP p l k) = l.any p
  | [], k => rfl
  | x :: r, k => by
    unfold idxP
    cases h : p x
    · simp only [Bool.false_eq_true, if_false, List.any_cons, h, Bool.false_or]
      exact idxP_any p r (k + 1)
    · simp only [if_true, List.any_cons, h, Bool.true_or]
      exact decide_eq_true (by omega)
theorem not_any_not {α : Type} (p : α → Bool) (l : List α) : (!(l.any fun x => !p x)) = l.all p := by
  rw [List.all_eq_not_any_not]
theorem IndexFuncC_ok (l : List Ct) (f : AV) (p : Ct → Bool) (hl : l.length < 1073741824)
    (hf : ∀ x ∈ l, ∀ (e : Nat → AV) (m : Mem) (K : AV → St → Prop), K (.bool (p x)) ⟨e, m⟩ → @WAH ft f [encC x] ⟨e, m⟩ ⟨K⟩) : RV ft 71 [encCs l, f] (I64 (idxP p l 0)) := by
  refine RV_of ft71 rfl ?_
  simp only [c71, r71]
  simp only [go_sem, Nat.reduceEqDiff, Nat.reduceAdd, Nat.reduceLT, Nat.reduceLeDiff, reduceIte]
  refine WL_inv (α := Nat × List Ct) (fun q e mm => e 0 = encCs l ∧ e 1 = f ∧ e 7 = I64 l.length ∧ e 8 = I64 q.1 ∧ l.drop q.1 = q.2 ∧ idxP p q.2 q.1 = idxP p l 0) (fun q => q.2.length) (0, l) ?_ ?_
  · simp only [go_sem, Nat.reduceEqDiff, Nat.reduceAdd, Nat.reduceLT, Nat.reduceLeDiff, reduceIte]
    ((repeat' apply And.intro) <;> first | trivial | rfl | omega | assumption)
  rintro ⟨k, r⟩ e m ⟨h0, h1, h7, h8, hd, hq⟩
  dsimp only at h8 hd hq
  cases r with
  | nil =>
    have h3 := drop_nil hd
    simp only [go_sem, Nat.reduceEqDiff, Nat.reduceAdd, Nat.reduceLT, Nat.reduceLeDiff, reduceIte, h0, h1, h7, h8, dec_ge h3]
    rw [← hq]; rfl
  | cons x r =>
    obtain ⟨hk, hd2, hlt⟩ := drop_cons hd
    simp only [go_sem, Nat.reduceEqDiff, Nat.reduceAdd, Nat.reduceLT, Nat.reduceLeDiff, reduceIte, h0, h1, h7, h8, dec_lt hlt, Cs_idx hk]
    refine hf x (List.mem_of_getElem? hk) _ _ _ ?_
    cases hx : p x
    · simp only [go_sem, Nat.reduceEqDiff, Nat.reduceAdd, Nat.reduceLT, Nat.reduceLeDiff, reduceIte, h0, h1, h7, h8, wrap_n1 k (by omega)]
      refine Nx_of (k + 1, r) (by simp) ?_
      simp only [go_sem, Nat.reduceEqDiff, Nat.reduceAdd, Nat.reduceLT, Nat.reduceLeDiff, reduceIte, h0, h1, h7]
      exact ⟨trivial, trivial, trivial, trivial, hd2, by rw [← hq]; simp [idxP, hx]⟩
    · simp only [go_sem, Nat.reduceEqDiff, Nat.reduceAdd, Nat.reduceLT, Nat.reduceLeDiff, reduceIte, h0, h1, h7, h8]
      rw [← hq]; simp [idxP, hx]
theorem ContainsFuncC_ok (l : List Ct) (f : AV) (p : Ct → Bool) (hl : l.length < 1073741824) (hs : ∀ (m : Mem) (q : Nat), snap m (q + 10) f = f) (hh : ∀ q, hot (q + 10) f = false)
    (hf : ∀ x ∈ l, ∀ (e : Nat → AV) (m : Mem) (K : AV → St → Prop), K (.bool (p x)) ⟨e, m⟩ → @WAH ft f [encC x] ⟨e, m⟩ ⟨K⟩) : RV ft 107 [encCs l, f] (.bool (l.any p)) := by
  refine RV_of ft107 rfl ?_
  simp only [c107, r107]
  simp only [go_sem, Nat.reduceEqDiff, Nat.reduceAdd, Nat.reduceLT, Nat.reduceLeDiff, reduceIte, WB71, hs, hh, WVH_eq (IndexFuncC_ok l f p hl hf), true_and, idxP_any]
theorem allC_ok (l : List Ct) (g : AV) (p : Ct → Bool) (hl : l.length < 1073741824) (hc : g.cells = [g]) (hso : g.solid = true) (hs : ∀ (m : Mem) (q : Nat), snap m (q + 8) g = g) (hh : ∀ q, hot (q + 8) g = false)
    (hf : ∀ x ∈ l, ∀ (e : Nat → AV) (m : Mem) (K : AV → St → Prop), K (.bool (p x)) ⟨e, m⟩ → @WAH ft g [encC x] ⟨e, m⟩ ⟨K⟩) : RV ft 92 [encCs l, g] (.bool (l.all p)) := by
  refine RV_of ft92 rfl ?_
  simp only [c92, r92]
  have hk : ∀ x ∈ l, RV ft 108 [encC x, .pv g 0] (.bool (!p x)) := fun x hx => by
    refine RV_of ft108 rfl ?_
    simp only [c108, r108]
    simp only [go_sem, Nat.reduceEqDiff, Nat.reduceAdd, Nat.reduceLT, Nat.reduceLeDiff, reduceIte, hc]
    refine hf x hx _ _ _ ?_
    simp only [go_sem, Nat.reduceEqDiff, Nat.reduceAdd, Nat.reduceLT, Nat.reduceLeDiff, reduceIte]
  have hC := ContainsFuncC_ok l (.fn 108 [] [.pv g 0]) (fun x => !p x) hl (fun m q => by
    show AV.fn 108 [] [.pv (snap m (q + 8) g) 0] = _
    rw [hs]) (fun q => by
    show (false || (hot (q + 8) g || false)) = false
    rw [hh]; rfl) (fun x hx e m K hK => by
    rw [WAH_fn]
    simp only [List.nil_append, List.cons_append]
    simp only [go_sem, Nat.reduceEqDiff, Nat.reduceAdd, Nat.reduceLT, Nat.reduceLeDiff, reduceIte, WB108, hs, hh, WVH_eq (hk x hx), true_and]
    exact hK)
  simp only [go_sem, Nat.reduceEqDiff, Nat.reduceAdd, Nat.reduceLT, Nat.reduceLeDiff, reduceIte, hc, hso, hs, hh, WB107, WVH_eq hC, true_and, not_any_not]
theorem IndexFuncR_ok (l : List Rp) (f : AV) (p : Rp → Bool) (hl : l.length < 1073741824)
    (hf : ∀ x ∈ l, ∀ (e : Nat → AV) (m : Mem) (K : AV → St → Prop), K (.bool (p x)) ⟨e, m⟩ → @WAH ft f [encR x] ⟨e, m⟩ ⟨K⟩) : RV ft 114 [encRs l, f] (I64 (idxP p l 0)) := by
  refine RV_of ft114 rfl ?_
  simp only [c114, r114]
  simp only [go_sem, Nat.reduceEqDiff, Nat.reduceAdd, Nat.reduceLT, Nat.reduceLeDiff, reduceIte]
  refine WL_inv (α := Nat × List Rp) (fun q e mm => e 0 = encRs l ∧ e 1 = f ∧ e 7 = I64 l.length ∧ e 8 = I64 q.1 ∧ l.drop q.1 = q.2 ∧ idxP p q.2 q.1 = idxP p l 0) (fun q => q.2.length) (0, l) ?_ ?_
  · simp only [go_sem, Nat.reduceEqDiff, Nat.reduceAdd, Nat.reduceLT, Nat.reduceLeDiff, reduceIte]
    ((repeat' apply And.intro) <;> first | trivial | rfl | omega | assumption)
  rintro ⟨k, r⟩ e m ⟨h0, h1, h7, h8, hd, hq⟩
  dsimp only at h8 hd hq
  cases r with
  | nil =>
    have h3 := drop_nil hd
    simp only [go_sem, Nat.reduceEqDiff, Nat.reduceAdd, Nat.reduceLT, Nat.reduceLeDiff, reduceIte, h0, h1, h7, h8, dec_ge h3]
    rw [← hq]; rfl
  | cons x r =>
    obtain ⟨hk, hd2, hlt⟩ := drop_cons hd
    simp only [go_sem, Nat.reduceEqDiff, Nat.reduceAdd, Nat.reduceLT, Nat.reduceLeDiff, reduceIte, h0, h1, h7, h8, dec_lt hlt, Rs_idx hk]
    refine hf x (List.mem_of_getElem? hk) _ _ _ ?_
    cases hx : p x
    · simp only [go_sem, Nat.reduceEqDiff, Nat.reduceAdd, Nat.reduceLT, Nat.reduceLeDiff, reduceIte, h0, h1, h7, h8, wrap_n1 k (by omega)]
      refine Nx_of (k + 1, r) (by simp) ?_
      simp only [go_sem, Nat.reduceEqDiff, Nat.reduceAdd, Nat.reduceLT, Nat.reduceLeDiff, reduceIte, h0, h1, h7]
      exact ⟨trivial, trivial, trivial, trivial, hd2, by rw [← hq]; simp [idxP, hx]⟩
    · simp only [go_sem, Nat.reduceEqDiff, Nat.reduceAdd, Nat.reduceLT, Nat.reduceLeDiff, reduceIte, h0, h1, h7, h8]
      rw [← hq]; simp [idxP, hx]
theorem ContainsFuncR_ok (l : List Rp) (f : AV) (p : Rp → Bool) (hl : l.length < 1073741824) (hs : ∀ (m : Mem) (q : Nat), snap m (q + 10) f = f) (hh : ∀ q, hot (q + 10) f = false)
    (hf : ∀ x ∈ l, ∀ (e : Nat → AV) (m : Mem) (K : AV → St → Prop), K (.bool (p x)) ⟨e, m⟩ → @WAH ft f [encR x] ⟨e, m⟩ ⟨K⟩) : RV ft 97 [encRs l, f] (.bool (l.any p)) := by
  refine RV_of ft97 rfl ?_
  simp only [c97, r97]
  simp only [go_sem, Nat.reduceEqDiff, Nat.reduceAdd, Nat.reduceLT, Nat.reduceLeDiff, reduceIte, WB114, hs, hh, WVH_eq (IndexFuncR_ok l f p hl hf), true_and, idxP_any]
theorem allR_ok (l : List Rp) (g : AV) (p : Rp → Bool) (hl : l.length < 1073741824) (hc : g.cells = [g]) (hso : g.solid = true) (hs : ∀ (m : Mem) (q : Nat), snap m (q + 8) g = g) (hh : ∀ q, hot (q + 8) g = false)
    (hf : ∀ x ∈ l, ∀ (e : Nat → AV) (m : Mem) (K : AV → St → Prop), K (.bool (p x)) ⟨e, m⟩ → @WAH ft g [encR x] ⟨e, m⟩ ⟨K⟩) : RV ft 73 [encRs l, g] (.bool (l.all p)) := by
  refine RV_of ft73 rfl ?_
  simp only [c73, r73]
  have hk : ∀ x ∈ l, RV ft 98 [encR x, .pv g 0] (.bool (!p x)) := fun x hx => by
    refine RV_of ft98 rfl ?_
    simp only [c98, r98]
    simp only [go_sem, Nat.reduceEqDiff, Nat.reduceAdd, Nat.reduceLT, Nat.reduceLeDiff, reduceIte, hc]
    refine hf x hx _ _ _ ?_
    simp only [go_sem, Nat.reduceEqDiff, Nat.reduceAdd, Nat.reduceLT, Nat.reduceLeDiff, reduceIte]
  have hC := ContainsFuncR_ok l (.fn 98 [] [.pv g 0]) (fun x => !p x) hl (fun m q => by
    show AV.fn 98 [] [.pv (snap m (q + 8) g) 0] = _
    rw [hs]) (fun q => by
    show (false || (hot (q + 8) g || false)) = false
    rw [hh]; rfl) (fun x hx e m K hK => by
    rw [WAH_fn]
    simp only [List.nil_append, List.cons_append]
    simp only [go_sem, Nat.reduceEqDiff, Nat.reduceAdd, Nat.reduceLT, Nat.reduceLeDiff, reduceIte, WB98, hs, hh, WVH_eq (hk x hx), true_and]
    exact hK)
  simp only [go_sem, Nat.reduceEqDiff, Nat.reduceAdd, Nat.reduceLT, Nat.reduceLeDiff, reduceIte, hc, hso, hs, hh, WB97, WVH_eq hC, true_and, not_any_not]
theorem IndexFuncI_ok (l : List Int) (f : AV) (p : Int → Bool) (hl : l.length < 1073741824)
    (hf : ∀ x ∈ l, ∀ (e : Nat → AV) (m : Mem) (K : AV → St → Prop), K (.bool (p x)) ⟨e, m⟩ → @WAH ft f [I64 x] ⟨e, m⟩ ⟨K⟩) : RV ft 146 [encIs l, f] (I64 (idxP p l 0)) := by
  refine RV_of ft146 rfl ?_
  simp only [c146, r146]
  simp only [go_sem, Nat.reduceEqDiff, Nat.reduceAdd, Nat.reduceLT, Nat.reduceLeDiff, reduceIte]
  refine WL_inv (α := Nat × List Int) (fun q e mm => e 0 = encIs l ∧ e 1 = f ∧ e 7 = I64 l.length ∧ e 8 = I64 q.1 ∧ l.drop q.1 = q.2 ∧ idxP p q.2 q.1 = idxP p l 0) (fun q => q.2.length) (0, l) ?_ ?_
  · simp only [go_sem, Nat.reduceEqDiff, Nat.reduceAdd, Nat.reduceLT, Nat.reduceLeDiff, reduceIte]
    ((repeat' apply And.intro) <;> first | trivial | rfl | omega | assumption)
  rintro ⟨k, r⟩ e m ⟨h0, h1, h7, h8, hd, hq⟩
  dsimp only at h8 hd hq
  cases r with
  | nil =>
    have h3 := drop_nil hd
    simp only [go_sem, Nat.reduceEqDiff, Nat.reduceAdd, Nat.reduceLT, Nat.reduceLeDiff, reduceIte, h0, h1, h7, h8, dec_ge h3]
    rw [← hq]; rfl
  | cons x r =>
    obtain ⟨hk, hd2, hlt⟩ := drop_cons hd
    simp only [go_sem, Nat.reduceEqDiff, Nat.reduceAdd, Nat.reduceLT, Nat.reduceLeDiff, reduceIte, h0, h1, h7, h8, dec_lt hlt, Is_idx hk]
    refine hf x (List.mem_of_getElem? hk) _ _ _ ?_
    cases hx : p x
    · simp only [go_sem, Nat.reduceEqDiff, Nat.reduceAdd, Nat.reduceLT, Nat.reduceLeDiff, reduceIte, h0, h1, h7, h8, wrap_n1 k (by omega)]
      refine Nx_of (k + 1, r) (by simp) ?_
      simp only [go_sem, Nat.reduceEqDiff, Nat.reduceAdd, Nat.reduceLT, Nat.reduceLeDiff, reduceIte, h0, h1, h7]
      exact ⟨trivial, trivial, trivial, trivial, hd2, by rw [← hq]; simp [idxP, hx]⟩
    · simp only [go_sem, Nat.reduceEqDiff, Nat.reduceAdd, Nat.reduceLT, Nat.reduceLeDiff, reduceIte, h0, h1, h7, h8]
      rw [← hq]; simp [idxP, hx]
theorem ContainsFuncI_ok (l : List Int) (f : AV) (p : Int → Bool) (hl : l.length < 1073741824) (hs : ∀ (m : Mem) (q : Nat), snap m (q + 10) f = f) (hh : ∀ q, hot (q + 10) f = false)
    (hf : ∀ x ∈ l, ∀ (e : Nat → AV) (m : Mem) (K : AV → St → Prop), K (.bool (p x)) ⟨e, m⟩ → @WAH ft f [I64 x] ⟨e, m⟩ ⟨K⟩) : RV ft 134 [encIs l, f] (.bool (l.any p)) := by
  refine RV_of ft134 rfl ?_
  simp only [c134, r134]
  simp only [go_sem, Nat.reduceEqDiff, Nat.reduceAdd, Nat.reduceLT, Nat.reduceLeDiff, reduceIte, WB146, hs, hh, WVH_eq (IndexFuncI_ok l f p hl hf), true_and, idxP_any]
theorem allI_ok (l : List Int) (g : AV) (p : Int → Bool) (hl : l.length < 1073741824) (hc : g.cells = [g]) (hso : g.solid = true) (hs : ∀ (m : Mem) (q : Nat), snap m (q + 8) g = g) (hh : ∀ q, hot (q + 8) g = false)
    (hf : ∀ x ∈ l, ∀ (e : Nat → AV) (m : Mem) (K : AV → St → Prop), K (.bool (p x)) ⟨e, m⟩ → @WAH ft g [I64 x] ⟨e, m⟩ ⟨K⟩) : RV ft 109 [encIs l, g] (.bool (l.all p)) := by
  refine RV_of ft109 rfl ?_
  simp only [c109, r109]
  have hk : ∀ x ∈ l, RV ft 135 [I64 x, .pv g 0] (.bool (!p x)) := fun x hx => by
    refine RV_of ft135 rfl ?_
    simp only [c135, r135]
    simp only [go_sem, Nat.reduceEqDiff, Nat.reduceAdd, Nat.reduceLT, Nat.reduceLeDiff, reduceIte, hc]
    refine hf x hx _ _ _ ?_
    simp only [go_sem, Nat.reduceEqDiff, Nat.reduceAdd, Nat.reduceLT, Nat.reduceLeDiff, reduceIte]
  have hC := ContainsFuncI_ok l (.fn 135 [] [.pv g 0]) (fun x => !p x) hl (fun m q => by
    show AV.fn 135 [] [.pv (snap m (q + 8) g) 0] = _
    rw [hs]) (fun q => by
    show (false || (hot (q + 8) g || false)) = false
    rw [hh]; rfl) (fun x hx e m K hK => by
    rw [WAH_fn]
    simp only [List.nil_append, List.cons_append]
    simp only [go_sem, Nat.reduceEqDiff, Nat.reduceAdd, Nat.reduceLT, Nat.reduceLeDiff, reduceIte, WB135, hs, hh, WVH_eq (hk x hx), true_and]
    exact hK)
  simp only [go_sem, Nat.reduceEqDiff, Nat.reduceAdd, Nat.reduceLT, Nat.reduceLeDiff, reduceIte, hc, hso, hs, hh, WB134, WVH_eq hC, true_and, not_any_not]
theorem IndexFuncT_ok (l : List Ti) (f : AV) (p : Ti → Bool) (hl : l.length < 1073741824)
    (hf : ∀ x ∈ l, ∀ (e : Nat → AV) (m : Mem) (K : AV → St → Prop), K (.bool (p x)) ⟨e, m⟩ → @WAH ft f [encT x] ⟨e, m⟩ ⟨K⟩) : RV ft 147 [encTs l, f] (I64 (idxP p l 0)) := by
  refine RV_of ft147 rfl ?_
  simp only [c147, r147]
  simp only [go_sem, Nat.reduceEqDiff, Nat.reduceAdd, Nat.reduceLT, Nat.reduceLeDiff, reduceIte]
  refine WL_inv (α := Nat × List Ti) (fun q e mm => e 0 = encTs l ∧ e 1 = f ∧ e 7 = I64 l.length ∧ e 8 = I64 q.1 ∧ l.drop q.1 = q.2 ∧ idxP p q.2 q.1 = idxP p l 0) (fun q => q.2.length) (0, l) ?_ ?_
  · simp only [go_sem, Nat.reduceEqDiff, Nat.reduceAdd, Nat.reduceLT, Nat.reduceLeDiff, reduceIte]
    ((repeat' apply And.intro) <;> first | trivial | rfl | omega | assumption)
  rintro ⟨k, r⟩ e m ⟨h0, h1, h7, h8, hd, hq⟩
  dsimp only at h8 hd hq
  cases r with
  | nil =>
    have h3 := drop_nil hd
    simp only [go_sem, Nat.reduceEqDiff, Nat.reduceAdd, Nat.reduceLT, Nat.reduceLeDiff, reduceIte, h0, h1, h7, h8, dec_ge h3]
    rw [← hq]; rfl
  | cons x r =>
    obtain ⟨hk, hd2, hlt⟩ := drop_cons hd
    simp only [go_sem, Nat.reduceEqDiff, Nat.reduceAdd, Nat.reduceLT, Nat.reduceLeDiff, reduceIte, h0, h1, h7, h8, dec_lt hlt, Ts_idx hk]
    refine hf x (List.mem_of_getElem? hk) _ _ _ ?_
    cases hx : p x
    · simp only [go_sem, Nat.reduceEqDiff, Nat.reduceAdd, Nat.reduceLT, Nat.reduceLeDiff, reduceIte, h0, h1, h7, h8, wrap_n1 k (by omega)]
      refine Nx_of (k + 1, r) (by simp) ?_
      simp only [go_sem, Nat.reduceEqDiff, Nat.reduceAdd, Nat.reduceLT, Nat.reduceLeDiff, reduceIte, h0, h1, h7]
      exact ⟨trivial, trivial, trivial, trivial, hd2, by rw [← hq]; simp [idxP, hx]⟩
    · simp only [go_sem, Nat.reduceEqDiff, Nat.reduceAdd, Nat.reduceLT, Nat.reduceLeDiff, reduceIte, h0, h1, h7, h8]
      rw [← hq]; simp [idxP, hx]
theorem ContainsFuncT_ok (l : List Ti) (f : AV) (p : Ti → Bool) (hl : l.length < 1073741824) (hs : ∀ (m : Mem) (q : Nat), snap m (q + 10) f = f) (hh : ∀ q, hot (q + 10) f = false)
    (hf : ∀ x ∈ l, ∀ (e : Nat → AV) (m : Mem) (K : AV → St → Prop), K (.bool (p x)) ⟨e, m⟩ → @WAH ft f [encT x] ⟨e, m⟩ ⟨K⟩) : RV ft 136 [encTs l, f] (.bool (l.any p)) := by
  refine RV_of ft136 rfl ?_
  simp only [c136, r136]
  simp only [go_sem, Nat.reduceEqDiff, Nat.reduceAdd, Nat.reduceLT, Nat.reduceLeDiff, reduceIte, WB147, hs, hh, WVH_eq (IndexFuncT_ok l f p hl hf), true_and, idxP_any]
theorem allT_ok (l : List Ti) (g : AV) (p : Ti → Bool) (hl : l.length < 1073741824) (hc : g.cells = [g]) (hso : g.solid = true) (hs : ∀ (m : Mem) (q : Nat), snap m (q + 8) g = g) (hh : ∀ q, hot (q + 8) g = false)
    (hf : ∀ x ∈ l, ∀ (e : Nat → AV) (m : Mem) (K : AV → St → Prop), K (.bool (p x)) ⟨e, m⟩ → @WAH ft g [encT x] ⟨e, m⟩ ⟨K⟩) : RV ft 111 [encTs l, g] (.bool (l.all p)) := by
  refine RV_of ft111 rfl ?_
  simp only [c111, r111]
  have hk : ∀ x ∈ l, RV ft 137 [encT x, .pv g 0] (.bool (!p x)) := fun x hx => by
    refine RV_of ft137 rfl ?_
    simp only [c137, r137]
    simp only [go_sem, Nat.reduceEqDiff, Nat.reduceAdd, Nat.reduceLT, Nat.reduceLeDiff, reduceIte, hc]
    refine hf x hx _ _ _ ?_
    simp only [go_sem, Nat.reduceEqDiff, Nat.reduceAdd, Nat.reduceLT, Nat.reduceLeDiff, reduceIte]
  have hC := ContainsFuncT_ok l (.fn 137 [] [.pv g 0]) (fun x => !p x) hl (fun m q => by
    show AV.fn 137 [] [.pv (snap m (q + 8) g) 0] = _
    rw [hs]) (fun q => by
    show (false || (hot (q + 8) g || false)) = false
    rw [hh]; rfl) (fun x hx e m K hK => by
    rw [WAH_fn]
    simp only [List.nil_append, List.cons_append]
    simp only [go_sem, Nat.reduceEqDiff, Nat.reduceAdd, Nat.reduceLT, Nat.reduceLeDiff, reduceIte, WB137, hs, hh, WVH_eq (hk x hx), true_and]
    exact hK)
  simp only [go_sem, Nat.reduceEqDiff, Nat.reduceAdd, Nat.reduceLT, Nat.reduceLeDiff, reduceIte, hc, hso, hs, hh, WB136, WVH_eq hC, true_and, not_any_not]
end Go.Ab.T
end

section
namespace Go.Ab.T
set_option maxRecDepth 8000
set_option maxHeartbeats 4000000
/-- What stands in front of a place. -/
def BefT (l : List Ti) (k : Nat) (p : Option Int) : Prop := match p with | none => k = 0 | some q => 0 < k ∧ ∃ y, l[k - 1]? = some y ∧ y.fr = q
theorem BefT.next {l : List Ti} {k : Nat} {x : Ti} (h : l[k]? = some x) : BefT l (k + 1) (some x.fr) := ⟨by omega, x, by simpa using h, rfl⟩
theorem sub1 {k : Nat} (h0 : 0 < k) (h : k < 4611686018427387904) : IntKind.i64.wrap ((k : Int) - 1) = ((k - 1 : Nat) : Int) := by rw [wrap_i64 _ (by omega) (by omega)]; omega
theorem dec_le_lt (a b : Int) : decide (a ≤ b) = !decide (b < a) := by
  by_cases h : a ≤ b
  · rw [decide_eq_true h, decide_eq_false (by omega)]; rfl
  · rw [decide_eq_false h, decide_eq_true (by omega)]; rfl
theorem ascending_ok (l : List Ti) (hl : l.length < 1073741824) : RV ft 113 [encTs l] (.bool (ascT none l)) := by
  refine RV_of ft113 rfl ?_
  simp only [c113, r113]
  simp only [go_sem, Nat.reduceEqDiff, Nat.reduceAdd, Nat.reduceLT, Nat.reduceLeDiff, reduceIte]
  refine WL_inv (α := Nat × Option Int × List Ti) (fun q e mm => e 0 = encTs l ∧ e 5 = encTs l ∧ e 6 = I64 l.length ∧ e 7 = I64 q.1 ∧ BefT l q.1 q.2.1 ∧ l.drop q.1 = q.2.2 ∧ ascT q.2.1 q.2.2 = ascT none l ∧ ∃ bl tk, mm = ⟨bl, tk⟩) (fun q => q.2.2.length) (0, none, l) ?_ ?_
  · simp only [go_sem, Nat.reduceEqDiff, Nat.reduceAdd, Nat.reduceLT, Nat.reduceLeDiff, reduceIte]
    ((repeat' apply And.intro) <;> first | trivial | rfl | exact ⟨_, _, rfl⟩ | omega | assumption)
  rintro ⟨k, p, r⟩ e m ⟨h0, h5, h6, h7, hb, hd, ha, bl, tk, rfl⟩
  dsimp only at h7 hb hd ha
  cases r with
  | nil =>
    have := drop_nil hd
    simp only [go_sem, Nat.reduceEqDiff, Nat.reduceAdd, Nat.reduceLT, Nat.reduceLeDiff, reduceIte, h0, h5, h6, h7, dec_ge this]
    rw [← ha]; rfl
  | cons x r =>
    obtain ⟨hk, hd2, hlt⟩ := drop_cons hd
    cases p with
    | none =>
      have hk0 : k = 0 := hb
      subst hk0
      simp only [go_sem, Nat.reduceEqDiff, Nat.reduceAdd, Nat.reduceLT, Nat.reduceLeDiff, reduceIte, h0, h5, h6, h7, dec_lt hlt, Ts_idx hk, show decide ((0 : Int) < ((0 : Nat) : Int)) = false from rfl, wrap_n1 0 (by omega)]
      refine Nx_of (0 + 1, some x.fr, r) (by simp) ?_
      simp only [go_sem, Nat.reduceEqDiff, Nat.reduceAdd, Nat.reduceLT, Nat.reduceLeDiff, reduceIte, h0, h5, h6]
      exact ⟨trivial, trivial, trivial, trivial, BefT.next hk, hd2, by rw [← ha]; simp [ascT], _, _, rfl⟩
    | some q =>
      obtain ⟨hk0, y, hy, rfl⟩ := hb
      have c0 : decide ((0 : Int) < (k : Int)) = true := decide_eq_true (by omega)
      cases hxy : decide (y.fr < x.fr)
      · simp only [go_sem, Nat.reduceEqDiff, Nat.reduceAdd, Nat.reduceLT, Nat.reduceLeDiff, reduceIte, h0, h5, h6, h7, dec_lt hlt, Ts_idx hk, Ts_idx hy, c0, sub1 hk0 (by omega), dec_le_lt, hxy]
        rw [← ha]; simp [ascT, hxy]
      · simp only [go_sem, Nat.reduceEqDiff, Nat.reduceAdd, Nat.reduceLT, Nat.reduceLeDiff, reduceIte, h0, h5, h6, h7, dec_lt hlt, Ts_idx hk, Ts_idx hy, c0, sub1 hk0 (by omega), dec_le_lt, hxy, wrap_n1 k (by omega)]
        refine Nx_of (k + 1, some x.fr, r) (by simp) ?_
        simp only [go_sem, Nat.reduceEqDiff, Nat.reduceAdd, Nat.reduceLT, Nat.reduceLeDiff, reduceIte, h0, h5, h6]
        exact ⟨trivial, trivial, trivial, trivial, BefT.next hk, hd2, by rw [← ha]; simp [ascT, hxy], _, _, rfl⟩
theorem allMille_ok (l : List Int) (hl : l.length < 1073741824) : RV ft 109 [encIs l, .fn 110 [] []] (.bool (l.all miR)) :=
  allI_ok l _ miR hl rfl rfl (fun _ _ => rfl) (fun _ => rfl) fun x _ e m K hK => by
    rw [WAH_fn]
    simp only [List.nil_append, List.append_nil]
    simp only [go_sem, Nat.reduceEqDiff, Nat.reduceAdd, Nat.reduceLT, Nat.reduceLeDiff, reduceIte, WB110, WVH_eq (isMille_ok x), true_and]
    exact hK
theorem allTier_ok (l : List Ti) (hl : l.length < 1073741824) : RV ft 111 [encTs l, .fn 112 [] []] (.bool (l.all tiOK)) :=
  allT_ok l _ tiOK hl rfl rfl (fun _ _ => rfl) (fun _ => rfl) fun x _ e m K hK => by
    rw [WAH_fn]
    simp only [List.nil_append, List.append_nil]
    simp only [go_sem, Nat.reduceEqDiff, Nat.reduceAdd, Nat.reduceLT, Nat.reduceLeDiff, reduceIte, WB112, WVH_eq (validTier_ok x), true_and]
    exact hK
theorem validContract_ok (c : Ct) (h1 : c.st.length < 1073741824) (h2 : c.ti.length < 1073741824) : RV ft 93 [encC c] (.bool (ctOK c)) := by
  refine RV_of ft93 rfl ?_
  simp only [c93, r93]
  unfold ctOK
  cases d0 : inR c.film 0 99
  case false => simp only [go_sem, Nat.reduceEqDiff, Nat.reduceAdd, Nat.reduceLT, Nat.reduceLeDiff, reduceIte, WB69, WVH_eq (isWithin_ok _ _ _), true_and, d0]
  cases d1 : wkR c.fi
  case false => simp only [go_sem, Nat.reduceEqDiff, Nat.reduceAdd, Nat.reduceLT, Nat.reduceLeDiff, reduceIte, WB69, WVH_eq (isWithin_ok _ _ _), true_and, WB47, WVH_eq (isWeek_ok _), d0, d1]
  cases d2 : wkR c.la
  case false => simp only [go_sem, Nat.reduceEqDiff, Nat.reduceAdd, Nat.reduceLT, Nat.reduceLeDiff, reduceIte, WB69, WVH_eq (isWithin_ok _ _ _), true_and, WB47, WVH_eq (isWeek_ok _), d0, d1, d2]
  cases d3 : decide (c.fi ≤ c.la)
  case false => simp only [go_sem, Nat.reduceEqDiff, Nat.reduceAdd, Nat.reduceLT, Nat.reduceLeDiff, reduceIte, WB69, WVH_eq (isWithin_ok _ _ _), true_and, WB47, WVH_eq (isWeek_ok _), d0, d1, d2, d3]
  cases d4 : inR (c.st.length : Int) 1 6
  case false => simp only [go_sem, Nat.reduceEqDiff, Nat.reduceAdd, Nat.reduceLT, Nat.reduceLeDiff, reduceIte, WB69, WVH_eq (isWithin_ok _ _ _), true_and, WB47, WVH_eq (isWeek_ok _), d0, d1, d2, d3, d4]
  cases d5 : c.st.all miR
  case false => simp only [go_sem, Nat.reduceEqDiff, Nat.reduceAdd, Nat.reduceLT, Nat.reduceLeDiff, reduceIte, WB69, WVH_eq (isWithin_ok _ _ _), true_and, WB47, WVH_eq (isWeek_ok _), WB109, WVH_eq (allMille_ok _ h1), d0, d1, d2, d3, d4, d5]
  cases d6 : decide ((c.ti.length : Int) ≤ 4)
  case false => simp only [go_sem, Nat.reduceEqDiff, Nat.reduceAdd, Nat.reduceLT, Nat.reduceLeDiff, reduceIte, WB69, WVH_eq (isWithin_ok _ _ _), true_and, WB47, WVH_eq (isWeek_ok _), WB109, WVH_eq (allMille_ok _ h1), d0, d1, d2, d3, d4, d5, d6]
  cases d7 : c.ti.all tiOK
  case false => simp only [go_sem, Nat.reduceEqDiff, Nat.reduceAdd, Nat.reduceLT, Nat.reduceLeDiff, reduceIte, WB69, WVH_eq (isWithin_ok _ _ _), true_and, WB47, WVH_eq (isWeek_ok _), WB109, WVH_eq (allMille_ok _ h1), WB111, WVH_eq (allTier_ok _ h2), d0, d1, d2, d3, d4, d5, d6, d7]
  cases d8 : ascT none c.ti
  case false => simp only [go_sem, Nat.reduceEqDiff, Nat.reduceAdd, Nat.reduceLT, Nat.reduceLeDiff, reduceIte, WB69, WVH_eq (isWithin_ok _ _ _), true_and, WB47, WVH_eq (isWeek_ok _), WB109, WVH_eq (allMille_ok _ h1), WB111, WVH_eq (allTier_ok _ h2), WB113, WVH_eq (ascending_ok _ h2), d0, d1, d2, d3, d4, d5, d6, d7, d8]
  cases d9 : taR c.nut
  case false => simp only [go_sem, Nat.reduceEqDiff, Nat.reduceAdd, Nat.reduceLT, Nat.reduceLeDiff, reduceIte, WB69, WVH_eq (isWithin_ok _ _ _), true_and, WB47, WVH_eq (isWeek_ok _), WB109, WVH_eq (allMille_ok _ h1), WB111, WVH_eq (allTier_ok _ h2), WB113, WVH_eq (ascending_ok _ h2), WB59, WVH_eq (isTake_ok _), d0, d1, d2, d3, d4, d5, d6, d7, d8, d9]
  cases d10 : taR c.fl
  case false => simp only [go_sem, Nat.reduceEqDiff, Nat.reduceAdd, Nat.reduceLT, Nat.reduceLeDiff, reduceIte, WB69, WVH_eq (isWithin_ok _ _ _), true_and, WB47, WVH_eq (isWeek_ok _), WB109, WVH_eq (allMille_ok _ h1), WB111, WVH_eq (allTier_ok _ h2), WB113, WVH_eq (ascending_ok _ h2), WB59, WVH_eq (isTake_ok _), d0, d1, d2, d3, d4, d5, d6, d7, d8, d9, d10]
  cases d11 : miR c.ov
  case false => simp only [go_sem, Nat.reduceEqDiff, Nat.reduceAdd, Nat.reduceLT, Nat.reduceLeDiff, reduceIte, WB69, WVH_eq (isWithin_ok _ _ _), true_and, WB47, WVH_eq (isWeek_ok _), WB109, WVH_eq (allMille_ok _ h1), WB111, WVH_eq (allTier_ok _ h2), WB113, WVH_eq (ascending_ok _ h2), WB59, WVH_eq (isTake_ok _), WB110, WVH_eq (isMille_ok _), d0, d1, d2, d3, d4, d5, d6, d7, d8, d9, d10, d11]
  simp only [go_sem, Nat.reduceEqDiff, Nat.reduceAdd, Nat.reduceLT, Nat.reduceLeDiff, reduceIte, WB69, WVH_eq (isWithin_ok _ _ _), true_and, WB47, WVH_eq (isWeek_ok _), WB109, WVH_eq (allMille_ok _ h1), WB111, WVH_eq (allTier_ok _ h2), WB113, WVH_eq (ascending_ok _ h2), WB59, WVH_eq (isTake_ok _), WB110, WVH_eq (isMille_ok _), d0, d1, d2, d3, d4, d5, d6, d7, d8, d9, d10, d11]
/-- The tiers, one by one. -/
def tierA : Option Int → List Ti → Bool
  | _, [] => true
  | p, t :: r => tiOK t && ((match p with | none => true | some q => decide (q < t.fr)) && tierA (some t.fr) r)
theorem tierA_eq : ∀ (p : Option Int) (l : List Ti), tierA p l = (l.all tiOK && ascT p l)
  | _, [] => rfl
  | p, t :: r => by
    simp only [tierA, tierA_eq, List.all_cons, ascT]
    cases p <;> dsimp only <;> cases tiOK t <;> cases r.all tiOK <;> simp
def ctOK' (c : Ct) : Bool := inR c.film 0 99 && (!decide (c.fi < 0) && (!decide (c.la < c.fi) && (!decide (99 < c.la) && (inR (c.st.length : Int) 1 6 && (!decide (4 < (c.ti.length : Int)) && (taR c.nut && (taR c.fl && (miR c.ov && (inR c.gu 0 100000000 && (c.st.all miR && tierA none c.ti))))))))))
theorem ctOK_eq (c : Ct) : ctOK' c = ctOK c := by
  unfold ctOK' ctOK
  rw [tierA_eq, Bool.eq_iff_iff]
  simp only [Bool.and_eq_true, Bool.not_eq_true', decide_eq_false_iff_not, decide_eq_true_eq, wkR, inR_iff, Int.not_lt]
  constructor
  · rintro ⟨a, b, d, e, f, g, h, i, j, k, l, m, n⟩
    exact ⟨a, ⟨b, by omega⟩, ⟨by omega, e⟩, d, f, l, g, m, n, h, i, j, k⟩
  · rintro ⟨a, b, d, e, f, l, g, m, n, h, i, j, k⟩
    exact ⟨a, b.1, e, d.2, f, g, h, i, j, k, l, m, n⟩
theorem isContract_ok (c : Ct) (h1 : c.st.length < 1073741824) (h2 : c.ti.length < 1073741824) : RV ft 68 [encC c] (.bool (ctOK c)) := by
  rw [← ctOK_eq]
  refine RV_of ft68 rfl ?_
  simp only [c68, r68]
  unfold ctOK'
  have tq : ∀ n, inR n 0 10000000 = taR n := fun _ => rfl
  have mq : ∀ n, inR n 0 1000 = miR n := fun _ => rfl
  cases d0 : inR c.film 0 99
  case false => simp only [go_sem, Nat.reduceEqDiff, Nat.reduceAdd, Nat.reduceLT, Nat.reduceLeDiff, reduceIte, WB55, WVH_eq (within_ok _ _ _), true_and, tq, mq, d0]
  cases d1 : decide (c.fi < 0)
  case true => simp only [go_sem, Nat.reduceEqDiff, Nat.reduceAdd, Nat.reduceLT, Nat.reduceLeDiff, reduceIte, WB55, WVH_eq (within_ok _ _ _), true_and, tq, mq, d0, d1]
  cases d2 : decide (c.la < c.fi)
  case true => simp only [go_sem, Nat.reduceEqDiff, Nat.reduceAdd, Nat.reduceLT, Nat.reduceLeDiff, reduceIte, WB55, WVH_eq (within_ok _ _ _), true_and, tq, mq, d0, d1, d2]
  cases d3 : decide (99 < c.la)
  case true => simp only [go_sem, Nat.reduceEqDiff, Nat.reduceAdd, Nat.reduceLT, Nat.reduceLeDiff, reduceIte, WB55, WVH_eq (within_ok _ _ _), true_and, tq, mq, d0, d1, d2, d3]
  cases d4 : inR (c.st.length : Int) 1 6
  case false => simp only [go_sem, Nat.reduceEqDiff, Nat.reduceAdd, Nat.reduceLT, Nat.reduceLeDiff, reduceIte, WB55, WVH_eq (within_ok _ _ _), true_and, tq, mq, d0, d1, d2, d3, d4]
  cases d5 : decide (4 < (c.ti.length : Int))
  case true => simp only [go_sem, Nat.reduceEqDiff, Nat.reduceAdd, Nat.reduceLT, Nat.reduceLeDiff, reduceIte, WB55, WVH_eq (within_ok _ _ _), true_and, tq, mq, d0, d1, d2, d3, d4, d5]
  cases d6 : taR c.nut
  case false => simp only [go_sem, Nat.reduceEqDiff, Nat.reduceAdd, Nat.reduceLT, Nat.reduceLeDiff, reduceIte, WB55, WVH_eq (within_ok _ _ _), true_and, tq, mq, d0, d1, d2, d3, d4, d5, d6]
  cases d7 : taR c.fl
  case false => simp only [go_sem, Nat.reduceEqDiff, Nat.reduceAdd, Nat.reduceLT, Nat.reduceLeDiff, reduceIte, WB55, WVH_eq (within_ok _ _ _), true_and, tq, mq, d0, d1, d2, d3, d4, d5, d6, d7]
  cases d8 : miR c.ov
  case false => simp only [go_sem, Nat.reduceEqDiff, Nat.reduceAdd, Nat.reduceLT, Nat.reduceLeDiff, reduceIte, WB55, WVH_eq (within_ok _ _ _), true_and, tq, mq, d0, d1, d2, d3, d4, d5, d6, d7, d8]
  cases d9 : inR c.gu 0 100000000
  case false => simp only [go_sem, Nat.reduceEqDiff, Nat.reduceAdd, Nat.reduceLT, Nat.reduceLeDiff, reduceIte, WB55, WVH_eq (within_ok _ _ _), true_and, tq, mq, d0, d1, d2, d3, d4, d5, d6, d7, d8, d9]
  simp only [go_sem, Nat.reduceEqDiff, Nat.reduceAdd, Nat.reduceLT, Nat.reduceLeDiff, reduceIte, WB55, WVH_eq (within_ok _ _ _), true_and, tq, mq, d0, d1, d2, d3, d4, d5, d6, d7, d8, d9]
  refine WL_inv (α := Nat × List Int) (fun q e mm => e 1 = .ptr 0 0 0 ∧ e 3 = I64 q.1 ∧ c.st.drop q.1 = q.2 ∧ q.2.all miR = c.st.all miR ∧ mm = ⟨[.live [encC c] 9], []⟩) (fun q => q.2.length) (0, c.st) ?_ ?_
  · simp only [go_sem, Nat.reduceEqDiff, Nat.reduceAdd, Nat.reduceLT, Nat.reduceLeDiff, reduceIte]
    ((repeat' apply And.intro) <;> first | trivial | rfl | exact ⟨_, _, rfl⟩ | omega | assumption)
  rintro ⟨k, r⟩ e m ⟨g1, g3, hd, hq, rfl⟩
  dsimp only at g3 hd hq
  cases r with
  | cons x r =>
    obtain ⟨hk, hd2, hlt⟩ := drop_cons hd
    rw [List.all_cons] at hq
    cases hx : miR x
    · rw [hx] at hq
      simp only [go_sem, Nat.reduceEqDiff, Nat.reduceAdd, Nat.reduceLT, Nat.reduceLeDiff, reduceIte, g1, g3, dec_lt hlt, Is_idx hk, WB55, WVH_eq (within_ok _ _ _), true_and, mq, hx]
      rw [← hq]; simp
    · rw [hx] at hq
      simp only [go_sem, Nat.reduceEqDiff, Nat.reduceAdd, Nat.reduceLT, Nat.reduceLeDiff, reduceIte, g1, g3, dec_lt hlt, Is_idx hk, WB55, WVH_eq (within_ok _ _ _), true_and, mq, hx, wrap_n1 k (by omega)]
      refine Nx_of (k + 1, r) (by simp) ?_
      simp only [go_sem, Nat.reduceEqDiff, Nat.reduceAdd, Nat.reduceLT, Nat.reduceLeDiff, reduceIte, g1]
      exact ⟨trivial, trivial, hd2, by rw [← hq]; simp, trivial⟩
  | nil =>
  have hq : c.st.all miR = true := by rw [← hq]; rfl
  rw [hq]
  have := drop_nil hd
  simp only [go_sem, Nat.reduceEqDiff, Nat.reduceAdd, Nat.reduceLT, Nat.reduceLeDiff, reduceIte, g1, g3, dec_ge this]
  refine WL_inv (α := Nat × Option Int × List Ti) (fun q e mm => e 1 = .ptr 0 0 0 ∧ e 4 = I64 q.1 ∧ BefT c.ti q.1 q.2.1 ∧ c.ti.drop q.1 = q.2.2 ∧ tierA q.2.1 q.2.2 = tierA none c.ti ∧ mm = ⟨[.live [encC c] 9], []⟩) (fun q => q.2.2.length) (0, none, c.ti) ?_ ?_
  · simp only [go_sem, Nat.reduceEqDiff, Nat.reduceAdd, Nat.reduceLT, Nat.reduceLeDiff, reduceIte, g1]
    ((repeat' apply And.intro) <;> first | trivial | rfl | exact ⟨_, _, rfl⟩ | omega | assumption)
  rintro ⟨k, p, r⟩ e m ⟨g1, g4, hb, hd, hq, rfl⟩
  dsimp only at g4 hb hd hq
  cases r with
  | nil =>
    have := drop_nil hd
    simp only [go_sem, Nat.reduceEqDiff, Nat.reduceAdd, Nat.reduceLT, Nat.reduceLeDiff, reduceIte, g1, g4, dec_ge this]
    rw [← hq]; rfl
  | cons x r =>
    obtain ⟨hk, hd2, hlt⟩ := drop_cons hd
    simp only [tierA, tiOK] at hq
    cases e1 : taR x.fr
    case false =>
      simp only [go_sem, Nat.reduceEqDiff, Nat.reduceAdd, Nat.reduceLT, Nat.reduceLeDiff, reduceIte, g1, g4, dec_lt hlt, Ts_idx hk, WB55, WVH_eq (within_ok _ _ _), true_and, tq, mq, e1]
      rw [← hq, e1]; simp
    cases e2 : miR x.mi
    case false =>
      simp only [go_sem, Nat.reduceEqDiff, Nat.reduceAdd, Nat.reduceLT, Nat.reduceLeDiff, reduceIte, g1, g4, dec_lt hlt, Ts_idx hk, WB55, WVH_eq (within_ok _ _ _), true_and, tq, mq, e1, e2]
      rw [← hq, e1, e2]; simp
    rw [e1, e2] at hq
    cases p with
    | none =>
      have hk0 : k = 0 := hb
      subst hk0
      simp only [go_sem, Nat.reduceEqDiff, Nat.reduceAdd, Nat.reduceLT, Nat.reduceLeDiff, reduceIte, g1, g4, dec_lt hlt, Ts_idx hk, WB55, WVH_eq (within_ok _ _ _), true_and, tq, mq, e1, e2, show decide ((0 : Int) < ((0 : Nat) : Int)) = false from rfl, wrap_n1 0 (by omega)]
      refine Nx_of (0 + 1, some x.fr, r) (by simp) ?_
      simp only [go_sem, Nat.reduceEqDiff, Nat.reduceAdd, Nat.reduceLT, Nat.reduceLeDiff, reduceIte, g1]
      exact ⟨trivial, trivial, BefT.next hk, hd2, by rw [← hq]; simp, trivial⟩
    | some q =>
      obtain ⟨hk0, y, hy, rfl⟩ := hb
      have c0 : decide ((0 : Int) < (k : Int)) = true := decide_eq_true (by omega)
      dsimp only at hq
      cases hxy : decide (y.fr < x.fr)
      · rw [hxy] at hq
        simp only [go_sem, Nat.reduceEqDiff, Nat.reduceAdd, Nat.reduceLT, Nat.reduceLeDiff, reduceIte, g1, g4, dec_lt hlt, Ts_idx hk, Ts_idx hy, WB55, WVH_eq (within_ok _ _ _), true_and, tq, mq, e1, e2, c0, sub1 hk0 (by omega), dec_le_lt, hxy]
        rw [← hq]; simp
      · rw [hxy] at hq
        simp only [go_sem, Nat.reduceEqDiff, Nat.reduceAdd, Nat.reduceLT, Nat.reduceLeDiff, reduceIte, g1, g4, dec_lt hlt, Ts_idx hk, Ts_idx hy, WB55, WVH_eq (within_ok _ _ _), true_and, tq, mq, e1, e2, c0, sub1 hk0 (by omega), dec_le_lt, hxy, wrap_n1 k (by omega)]
        refine Nx_of (k + 1, some x.fr, r) (by simp) ?_
        simp only [go_sem, Nat.reduceEqDiff, Nat.reduceAdd, Nat.reduceLT, Nat.reduceLeDiff, reduceIte, g1]
        exact ⟨trivial, trivial, BefT.next hk, hd2, by rw [← hq]; simp, trivial⟩
end Go.Ab.T
end
