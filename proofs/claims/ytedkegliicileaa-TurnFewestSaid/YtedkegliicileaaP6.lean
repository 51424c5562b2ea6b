/-
  A part of the proofs over this seat.
  (The texts KzM6 KzK13, one behind the other.)
-/
import Derived.Test.YtedkegliicileaaP3
set_option linter.unusedSimpArgs false
set_option linter.unusedVariables false
set_option linter.unusedSectionVars false
section
namespace Go.Ab.T
/-! ### One more slot -/
theorem simH_app (h : Hs) (hi : Bool) (s : Sl) : ∀ (l : List Sl) (rd id : Int → Int), simH h hi (l ++ [s]) rd id = simH h hi l rd id ++ [evH h hi s (stL h hi l rd id).1 (stL h hi l rd id).2]
  | [], rd, id => rfl
  | x :: l, rd, id => by
    rw [List.cons_append, simH_cons, simH_app h hi s l, simH_cons]; rfl
theorem tz_app (h : Hs) (s : Sl) (l : List Sl) : tz h (l ++ [s]) = tz h l ++ [(evH h false s (stL h false l zeroI zeroI).1 (stL h false l zeroI zeroI).2, evH h true s (stL h true l zeroI zeroI).1 (stL h true l zeroI zeroI).2)] := by
  unfold tz
  rw [simH_app, simH_app, List.zip_append (by rw [simH_len, simH_len])]; rfl
theorem LV_app {h : Hs} {l : List Sl} {s : Sl} (hV : LV h l) (hl : l.length < 12) (hS : SV h s) (b0 : 0 ≤ s.bg) (b1 : s.bg ≤ 2000) (hb : behind l s = true) : LV h (l ++ [s]) := by
  have hb' := behind_iff.1 hb
  refine ⟨hV.H, by simp; omega, fun x hx => ?_, fun x hx => ?_, fun x hx => ?_, fun i j a b hij ha hb2 => ?_⟩
  · rcases List.mem_append.1 hx with h1 | h1
    · exact hV.S x h1
    · simp at h1; subst h1; exact hS
  · rcases List.mem_append.1 hx with h1 | h1
    · exact hV.b0 x h1
    · simp at h1; subst h1; exact b0
  · rcases List.mem_append.1 hx with h1 | h1
    · exact hV.b1 x h1
    · simp at h1; subst h1; exact b1
  · have hj : j < l.length + 1 := by have := (List.getElem?_eq_some_iff.1 hb2).1; simpa using this
    have hi : i < l.length := by omega
    rw [List.getElem?_append_left hi] at ha
    by_cases hjl : j < l.length
    · rw [List.getElem?_append_left hjl] at hb2
      exact hV.asc i j a b hij ha hb2
    · have : j = l.length := by omega
      subst this
      rw [List.getElem?_append_right (Nat.le_refl _), Nat.sub_self] at hb2
      simp at hb2; subst hb2
      exact hb' a (List.mem_of_getElem? ha)
theorem LV_behind {h : Hs} {l : List Sl} {s : Sl} (hV : LV h (l ++ [s])) : behind l s = true := by
  refine behind_iff.2 fun b hb => ?_
  rw [List.mem_iff_getElem?] at hb
  obtain ⟨i, hi⟩ := hb
  have hlt := (List.getElem?_eq_some_iff.1 hi).1
  exact hV.asc i l.length b s hlt (by rw [List.getElem?_append_left hlt]; exact hi) (by simp)
theorem LV_pre {h : Hs} {l : List Sl} {s : Sl} (hV : LV h (l ++ [s])) : LV h l := by
  have hlen := hV.len
  refine ⟨hV.H, by simp at hlen; omega, fun x hx => hV.S x (by simp [hx]), fun x hx => hV.b0 x (by simp [hx]), fun x hx => hV.b1 x (by simp [hx]), fun i j a b hij ha hb => ?_⟩
  have h1 := (List.getElem?_eq_some_iff.1 ha).1
  have h2 := (List.getElem?_eq_some_iff.1 hb).1
  exact hV.asc i j a b hij (by rw [List.getElem?_append_left h1]; exact ha) (by rw [List.getElem?_append_left h2]; exact hb)
/-- What Next tells. -/
theorem next_spec {h : Hs} {l : List Sl} (hV : LV h l) {s : Sl} (hS : SV h s) (hl : l.length < 12) : (nextE h l s = (0, 3) ∧ ∀ k, 0 ≤ k → k ≤ 2000 → nextOK h l s k = false) ∨
    ∃ n, nextE h l s = (n, 0) ∧ 0 ≤ n ∧ n ≤ 2000 ∧ nextOK h l s n = true ∧ ∀ k, 0 ≤ k → k < n → nextOK h l s k = false := by
  unfold nextE
  rw [if_pos (chk_0.2 hV), if_neg (fun h => h.elim (fun h => by omega) (fun h => by rw [slotOK_iff.2 hS] at h; cases h))]
  rcases nextGo_spec h l s 2001 0 with ⟨h1, h2⟩ | ⟨n, h1, h2, h3, h4, h5⟩
  · exact .inl ⟨h1, fun k g1 g2 => h2 k g1 (by omega)⟩
  · exact .inr ⟨n, h1, h2, by omega, h4, h5⟩
/-- The show that Next puts behind all others starts on its minute. -/
theorem next_start {h : Hs} {l : List Sl} {s : Sl} (hV : LV h (l ++ [s])) (hn : nextOK h l s s.bg = true) :
    (evH h false s (stL h false l zeroI zeroI).1 (stL h false l zeroI zeroI).2).start = s.bg ∧ (evH h true s (stL h true l zeroI zeroI).1 (stL h true l zeroI zeroI).2).start = s.bg := by
  unfold nextOK at hn
  rw [Bool.and_eq_true, Bool.not_eq_true', decide_eq_false_iff_not] at hn
  have h1 : ¬s.bg < (evH h true s (stL h true l zeroI zeroI).1 (stL h true l zeroI zeroI).2).start := hn.2
  have g1 : (simH h false (l ++ [s]) zeroI zeroI)[l.length]? = some (evH h false s (stL h false l zeroI zeroI).1 (stL h false l zeroI zeroI).2) := by rw [simH_app, ← simH_len h false l zeroI zeroI]; simp
  have g2 : (simH h true (l ++ [s]) zeroI zeroI)[l.length]? = some (evH h true s (stL h true l zeroI zeroI).1 (stL h true l zeroI zeroI).2) := by rw [simH_app, ← simH_len h true l zeroI zeroI]; simp
  have gs : (l ++ [s])[l.length]? = some s := by simp
  have u1 := simH_up hV false gs g1
  have u2 := simH_up hV true gs g2
  have ul := simH_lohi hV g1 g2
  have := ul.2.2.1
  omega
theorem next_late {h : Hs} {l : List Sl} {s : Sl} (hV : LV h (l ++ [s])) (hn : nextOK h l s s.bg = false) : s.bg < (evH h true s (stL h true l zeroI zeroI).1 (stL h true l zeroI zeroI).2).start := by
  have hn' : (behind l s && !decide (s.bg < (evH h true s (stL h true l zeroI zeroI).1 (stL h true l zeroI zeroI).2).start)) = false := hn
  rw [LV_behind hV, Bool.true_and, Bool.not_eq_false'] at hn'
  exact of_decide_eq_true hn'
end Go.Ab.T
end

section
namespace Go.Ab.T
set_option maxRecDepth 8000
set_option maxHeartbeats 4000000
/-- One more show, and an earlier minute. -/
def encLa (s : Sl) (d : Int) : AV := .agg [I64 s.screen, I64 s.bg, I64 s.runs.lo, I64 s.runs.hi, I64 s.crowd, I64 s.team, I64 d]
theorem LaCells (s : Sl) (d : Int) : (encLa s d).cells = [I64 s.screen, I64 s.bg, I64 s.runs.lo, I64 s.runs.hi, I64 s.crowd, I64 s.team, I64 d] := rfl
theorem cp_app0 (bl : List Blk) (l : List Sl) (s : Sl) (w : Tk) (hl : l.length ≤ 1073741824) : ∃ tk', appendAt ⟨bl, cpT l⟩ false (cpV 0 l) (.sl [encS s] w) 47 6 48 = some (.sl ((l ++ [s]).map encS) (.at 0), ⟨bl, tk'⟩) := cp_app bl [] l s w hl
theorem Ss_lent (m : Mem) (l : List Sl) (tk : Tk) : lenAt m (.sl (l.map encS) tk) = some (I64 l.length) := by rw [lenAt_sl, List.length_map]
theorem CheckV_ok {h : Hs} {l : List Sl} (hV : LV h l) : RV ft 27 [encH h, encSs l] (I64 0) := by
  have := CheckR_ok h l
  rw [chk_0.2 hV] at this
  exact this
theorem TurnLast_run (h : Hs) (l : List Sl) (s : Sl) (ea : Int) : RV ft 8 [encH h, encSs l, encLa s ea] (.bool true) := by
  refine RV_of ft8 rfl ?_
  simp only [c8, r8]
  have q12 : ((1 : Nat) != 2) = true := rfl
  cases hv : validL h l
  case false => simp only [go_sem, Nat.reduceEqDiff, Nat.reduceAdd, Nat.reduceLT, Nat.reduceLeDiff, reduceIte, and_self, decide_true, decide_false, beq_self_eq_true, HCells, HEta, LaCells, SCells, SEta, q12, Nat.zero_add, WB13, snH, hotH, snSs, hotSs, WVH_eq (valid_ok h l), hv, true_and, WB15, WVH_eq works_ok]
  have hV := validL_iff.1 hv
  have hl12 := hV.len
  cases hsl : slotOK h s
  case false => simp only [go_sem, Nat.reduceEqDiff, Nat.reduceAdd, Nat.reduceLT, Nat.reduceLeDiff, reduceIte, and_self, decide_true, decide_false, beq_self_eq_true, HCells, HEta, LaCells, SCells, SEta, q12, Nat.zero_add, WB13, snH, hotH, snSs, hotSs, WVH_eq (valid_ok h l), hv, true_and, WB28, snS, hotS, WVH_eq (IsSlot_ok h s hV.H), hsl, WB15, WVH_eq works_ok]
  have hS := slotOK_iff.1 hsl
  cases hc12 : decide ((12 : Int) ≤ (l.length : Int))
  case true => simp only [go_sem, Nat.reduceEqDiff, Nat.reduceAdd, Nat.reduceLT, Nat.reduceLeDiff, reduceIte, and_self, decide_true, decide_false, beq_self_eq_true, HCells, HEta, LaCells, SCells, SEta, q12, Nat.zero_add, WB13, snH, hotH, snSs, hotSs, WVH_eq (valid_ok h l), hv, true_and, WB28, snS, hotS, WVH_eq (IsSlot_ok h s hV.H), hsl, Ss_len, hc12, WB15, WVH_eq works_ok]
  have hl11 : l.length < 12 := by have := of_decide_eq_false hc12; omega
  have hN := Next_ok h l s
  have hT := TimesV_ok hV
  have hlen : ((tz h l).length : Int) = l.length := by rw [tz_len]
  have hne : ((l.length : Int) != (l.length : Int)) = false := by simp
  have h00 : ((0 : Int) != 0) = false := rfl
  have h00e : ((0 : Int) == 0) = true := rfl
  have h30 : ((3 : Int) != 0) = true := rfl
  have h33 : ((3 : Int) != 3) = false := rfl
  have h30e : ((3 : Int) == 0) = false := rfl
  obtain ⟨tkA, hA0⟩ : ∃ tkA, tkA = (fun (x : Sl) => Classical.choose (cp_app0 [Blk.live [encH h] 8, Blk.live [encLa s ea] 7, Blk.live [encS x] 6] l x .tight (by omega))) := ⟨_, rfl⟩
  have hA : ∀ x : Sl, appendAt ⟨[Blk.live [encH h] 8, Blk.live [encLa s ea] 7, Blk.live [encS x] 6], cpT l⟩ false (cpV 0 l) (.sl [encS x] .tight) 47 6 48 = some (.sl ((l ++ [x]).map encS) (.at 0), ⟨[Blk.live [encH h] 8, Blk.live [encLa s ea] 7, Blk.live [encS x] 6], tkA x⟩) := fun x => by
    rw [hA0]; exact Classical.choose_spec (cp_app0 [Blk.live [encH h] 8, Blk.live [encLa s ea] 7, Blk.live [encS x] 6] l x .tight (by omega))
  obtain ⟨tkB, hB0⟩ : ∃ tkB, tkB = (fun (x : Sl) (tk : List (Nat × Nat)) => Classical.choose (cp_app [Blk.live [encH h] 8, Blk.live [encLa s ea] 7, Blk.live [encS x] 6] tk l x .tight (by omega))) := ⟨_, rfl⟩
  have hB : ∀ (x : Sl) (tk : List (Nat × Nat)), appendAt ⟨[Blk.live [encH h] 8, Blk.live [encLa s ea] 7, Blk.live [encS x] 6], tk ++ cpT l⟩ false (cpV tk.length l) (.sl [encS x] .tight) 47 6 48 = some (.sl ((l ++ [x]).map encS) (.at tk.length), ⟨[Blk.live [encH h] 8, Blk.live [encLa s ea] 7, Blk.live [encS x] 6], tkB x tk⟩) := fun x tk => by
    rw [hB0]; exact Classical.choose_spec (cp_app [Blk.live [encH h] 8, Blk.live [encLa s ea] 7, Blk.live [encS x] 6] tk l x .tight (by omega))
  have hcpW := copied_W l (by omega)
  -- the earlier minute
  have early : ∀ (s2 : Sl), s2 = { s with bg := ea } → 0 ≤ ea → ea ≤ 2000 → nextOK h l s ea = false → (RV ft 27 [encH h, encSs (l ++ [s2])] (I64 (chk h (l ++ [s2]))) ∧ (chk h (l ++ [s2]) = 0 → ∃ q, RV ft 16 [encH h, encSs (l ++ [s2])] (.tup [encMs (tz h (l ++ [s2])), I64 0]) ∧ (tz h (l ++ [s2]))[l.length]? = some q ∧ decide (ea < q.2.start) = true)) := by
    intro s2 hs2 e0 e1 hno
    refine ⟨CheckR_ok h _, fun hc => ?_⟩
    have hV2 := chk_0.1 hc
    refine ⟨_, TimesV_ok hV2, by rw [tz_app, ← tz_len h l]; simp; rfl, decide_eq_true ?_⟩
    have hbg : s2.bg = ea := by rw [hs2]
    have := next_late hV2 (by rw [hbg]; rw [hs2]; exact hno)
    rw [hbg] at this; exact this
  have hS2 : ∀ b : Int, SV h { s with bg := b } := fun b => ⟨hS.s0, hS.s1, hS.r0, hS.r1, hS.r2, hS.c0, hS.c1, hS.t0, hS.t1⟩
  rcases next_spec hV hS hl11 with ⟨hn, hno⟩ | ⟨n, hn, n0, n1, hok, hno⟩
  · rw [hn] at hN
    cases e0 : decide (ea < 0)
    case true => simp only [go_sem, Nat.reduceEqDiff, Nat.reduceAdd, Nat.reduceLT, Nat.reduceLeDiff, reduceIte, and_self, decide_true, decide_false, beq_self_eq_true, HCells, HEta, LaCells, SCells, SEta, q12, Nat.zero_add, WB13, snH, hotH, snSs, hotSs, WVH_eq (valid_ok h l), hv, true_and, WB28, snS, hotS, WVH_eq (IsSlot_ok h s hV.H), hsl, Ss_len, hc12, WB29, WVH_eq hN, h30, h33, h30e, WB16, WVH_eq hT, Ms_len, hlen, hne, h00, e0, WB15, WVH_eq works_ok]
    cases e1 : decide (2000 < ea)
    case true => simp only [go_sem, Nat.reduceEqDiff, Nat.reduceAdd, Nat.reduceLT, Nat.reduceLeDiff, reduceIte, and_self, decide_true, decide_false, beq_self_eq_true, HCells, HEta, LaCells, SCells, SEta, q12, Nat.zero_add, WB13, snH, hotH, snSs, hotSs, WVH_eq (valid_ok h l), hv, true_and, WB28, snS, hotS, WVH_eq (IsSlot_ok h s hV.H), hsl, Ss_len, hc12, WB29, WVH_eq hN, h30, h33, h30e, WB16, WVH_eq hT, Ms_len, hlen, hne, h00, e0, e1, WB15, WVH_eq works_ok]
    have e0' := of_decide_eq_false e0
    have e1' := of_decide_eq_false e1
    obtain ⟨s2, hs2⟩ : ∃ s2 : Sl, s2 = { s with bg := ea } := ⟨_, rfl⟩
    have hw : writeCells (encS s) 1 [I64 ea] = some (encS s2) := by rw [hs2]; rfl
    obtain ⟨hck, htm⟩ := early s2 hs2 (by omega) (by omega) (hno ea (by omega) (by omega))
    have hA' := hA s2
    by_cases hc : chk h (l ++ [s2]) = 0
    · obtain ⟨q, hT2, hq, hlt⟩ := htm hc
      have hl2 : ((tz h (l ++ [s2])).length : Int) = ((l ++ [s2]).length : Nat) := by rw [tz_len]
      have hq' := fun m => Ms_idx m hq
      rw [hc] at hck
      simp only [go_sem, Nat.reduceEqDiff, Nat.reduceAdd, Nat.reduceLT, Nat.reduceLeDiff, reduceIte, and_self, decide_true, decide_false, beq_self_eq_true, HCells, HEta, LaCells, SCells, SEta, q12, Nat.zero_add, WB13, snH, hotH, snSs, hotSs, WVH_eq (valid_ok h l), hv, true_and, WB28, snS, hotS, WVH_eq (IsSlot_ok h s hV.H), hsl, Ss_len, hc12, WB29, WVH_eq hN, h30, h33, h30e, WB16, WVH_eq hT, Ms_len, hlen, hne, h00, h00e, e0, e1, hw, WB20, hcpW, cp_shift, cp_join, hA', snSst, hotSst, WB27, WVH_eq hck, WVH_eq hT2, Ss_lent, hl2, hq', MCells, hlt, WB15, WVH_eq works_ok]
    · have hcn : (chk h (l ++ [s2]) != 0) = true := chk_ne hc
      simp only [go_sem, Nat.reduceEqDiff, Nat.reduceAdd, Nat.reduceLT, Nat.reduceLeDiff, reduceIte, and_self, decide_true, decide_false, beq_self_eq_true, HCells, HEta, LaCells, SCells, SEta, q12, Nat.zero_add, WB13, snH, hotH, snSs, hotSs, WVH_eq (valid_ok h l), hv, true_and, WB28, snS, hotS, WVH_eq (IsSlot_ok h s hV.H), hsl, Ss_len, hc12, WB29, WVH_eq hN, h30, h33, h30e, WB16, WVH_eq hT, Ms_len, hlen, hne, h00, e0, e1, hw, WB20, hcpW, cp_shift, cp_join, hA', snSst, hotSst, WB27, WVH_eq hck, hcn, WB15, WVH_eq works_ok]
  · rw [hn] at hN
    obtain ⟨s1, hs1⟩ : ∃ s1 : Sl, s1 = { s with bg := n } := ⟨_, rfl⟩
    have hw1 : writeCells (encS s) 1 [I64 n] = some (encS s1) := by rw [hs1]; rfl
    have hb1 : behind l s1 = true := by
      unfold nextOK at hok
      rw [Bool.and_eq_true] at hok
      rw [hs1]; exact hok.1
    have hV1 : LV h (l ++ [s1]) := LV_app hV hl11 (by rw [hs1]; exact hS2 n) (by rw [hs1]; exact n0) (by rw [hs1]; exact n1) hb1
    have hck1 := CheckV_ok hV1
    have hT1 := TimesV_ok hV1
    have hl1 : ((tz h (l ++ [s1])).length : Int) = ((l ++ [s1]).length : Nat) := by rw [tz_len]
    have hne1 : (((l ++ [s1]).length : Int) != ((l ++ [s1]).length : Int)) = false := by simp
    have hst := next_start hV1 (by rw [hs1]; exact hok)
    have hbg1 : s1.bg = n := by rw [hs1]
    rw [hbg1] at hst
    obtain ⟨q, hq, hqs⟩ : ∃ q, (tz h (l ++ [s1]))[l.length]? = some q ∧ q.1.start = n ∧ q.2.start = n := ⟨_, by rw [tz_app, ← tz_len h l]; simp; rfl, hst⟩
    have hq' := fun m => Ms_idx m hq
    have hA1 := hA s1
    have hnn : (n == n) = true := by simp
    simp only [go_sem, Nat.reduceEqDiff, Nat.reduceAdd, Nat.reduceLT, Nat.reduceLeDiff, reduceIte, and_self, decide_true, decide_false, beq_self_eq_true, HCells, HEta, LaCells, SCells, SEta, q12, Nat.zero_add, WB13, snH, hotH, snSs, hotSs, WVH_eq (valid_ok h l), hv, true_and, WB28, snS, hotS, WVH_eq (IsSlot_ok h s hV.H), hsl, Ss_len, hc12, WB29, WVH_eq hN, WB16, WVH_eq hT, Ms_len, hlen, hne, h00, h00e, hw1, WB20, hcpW, cp_shift, cp_join, hA1, snSst, hotSst, WB27, WVH_eq hck1, WVH_eq hT1, Ss_lent, hl1, hne1, hq', MCells, hqs.1, hqs.2, hnn, if_true]
    refine WL_inv (α := Nat) (fun i e mm => e 1 = encSs l ∧ e 3 = .ptr 0 0 0 ∧ e 7 = .ptr 2 0 0 ∧ e 8 = I64 ea ∧ e 9 = I64 n ∧ e 10 = I64 0 ∧ e 11 = encMs (tz h l) ∧ e 14 = encMs (tz h (l ++ [s1])) ∧ e 16 = I64 i ∧ mm = ⟨[.live [encH h] 8, .live [encLa s ea] 7, .live [encS s1] 6], tkA s1⟩) (fun i => l.length - i) 0 ?_ ?_
    · simp only [go_sem, Nat.reduceEqDiff, Nat.reduceAdd, Nat.reduceLT, Nat.reduceLeDiff, reduceIte, and_self, decide_true, decide_false, beq_self_eq_true]
      exact ⟨trivial, trivial, trivial, trivial, trivial, trivial, trivial, trivial, rfl, trivial⟩
    rintro i e mm ⟨g1, g3, g7, g8, g9, g10, g11, g14, g16, rfl⟩
    by_cases hlt : i < l.length
    · obtain ⟨p, hp⟩ : ∃ p, (tz h l)[i]? = some p := ⟨_, List.getElem?_eq_getElem (by rw [tz_len]; exact hlt)⟩
      have hp1 : (tz h (l ++ [s1]))[i]? = some p := by rw [tz_app, List.getElem?_append_left (by rw [tz_len]; exact hlt)]; exact hp
      simp only [go_sem, Nat.reduceEqDiff, Nat.reduceAdd, Nat.reduceLT, Nat.reduceLeDiff, reduceIte, and_self, decide_true, decide_false, beq_self_eq_true, g1, g3, g7, g8, g9, g10, g11, g14, g16, Ss_len, dec_lt hlt, Ms_idx _ hp, Ms_idx _ hp1, MCells, MEta, eqM, if_true, wrap_n1 i (by omega)]
      refine Nx_of (i + 1) (by show l.length - (i + 1) < l.length - i; omega) ?_
      simp only [go_sem, Nat.reduceEqDiff, Nat.reduceAdd, Nat.reduceLT, Nat.reduceLeDiff, reduceIte, and_self, decide_true, decide_false, beq_self_eq_true, g1, g3, g7, g8, g9, g10, g11, g14]
    have hge := dec_ge (Nat.le_of_not_lt hlt)
    cases e0 : decide (ea < 0)
    case true => simp only [go_sem, Nat.reduceEqDiff, Nat.reduceAdd, Nat.reduceLT, Nat.reduceLeDiff, reduceIte, and_self, decide_true, decide_false, beq_self_eq_true, g1, g3, g7, g8, g9, g10, g11, g14, g16, Ss_len, hge, e0, WB15, WVH_eq works_ok, true_and]
    cases e1 : decide (2000 < ea)
    case true => simp only [go_sem, Nat.reduceEqDiff, Nat.reduceAdd, Nat.reduceLT, Nat.reduceLeDiff, reduceIte, and_self, decide_true, decide_false, beq_self_eq_true, g1, g3, g7, g8, g9, g10, g11, g14, g16, Ss_len, hge, e0, e1, WB15, WVH_eq works_ok, true_and]
    cases e2 : decide (n ≤ ea)
    case true => simp only [go_sem, Nat.reduceEqDiff, Nat.reduceAdd, Nat.reduceLT, Nat.reduceLeDiff, reduceIte, and_self, decide_true, decide_false, beq_self_eq_true, g1, g3, g7, g8, g9, g10, g11, g14, g16, Ss_len, hge, h00e, e0, e1, e2, WB15, WVH_eq works_ok, true_and]
    have e0' := of_decide_eq_false e0
    have e1' := of_decide_eq_false e1
    have e2' := of_decide_eq_false e2
    obtain ⟨s2, hs2⟩ : ∃ s2 : Sl, s2 = { s with bg := ea } := ⟨_, rfl⟩
    have hw : writeCells (encS s1) 1 [I64 ea] = some (encS s2) := by rw [hs2, hs1]; rfl
    obtain ⟨hck, htm⟩ := early s2 hs2 (by omega) (by omega) (hno ea (by omega) (by omega))
    have hB' := hB s2 (tkA s1)
    by_cases hc : chk h (l ++ [s2]) = 0
    · obtain ⟨q2, hT2, hq2, hlt2⟩ := htm hc
      have hl2 : ((tz h (l ++ [s2])).length : Int) = ((l ++ [s2]).length : Nat) := by rw [tz_len]
      have hq2' := fun m => Ms_idx m hq2
      rw [hc] at hck
      simp only [go_sem, Nat.reduceEqDiff, Nat.reduceAdd, Nat.reduceLT, Nat.reduceLeDiff, reduceIte, and_self, decide_true, decide_false, beq_self_eq_true, g1, g3, g7, g8, g9, g10, g11, g14, g16, Ss_len, hge, h00e, h00, e0, e1, e2, SCells, SEta, HCells, HEta, hw, WB20, snSs, hotSs, hcpW, true_and, cp_shift, cp_join, hB', snSst, hotSst, snH, hotH, WB27, WVH_eq hck, WB16, WVH_eq hT2, Ms_len, Ss_lent, hl2, hq2', MCells, hlt2, WB15, WVH_eq works_ok]
    · have hcn : (chk h (l ++ [s2]) != 0) = true := chk_ne hc
      simp only [go_sem, Nat.reduceEqDiff, Nat.reduceAdd, Nat.reduceLT, Nat.reduceLeDiff, reduceIte, and_self, decide_true, decide_false, beq_self_eq_true, g1, g3, g7, g8, g9, g10, g11, g14, g16, Ss_len, hge, h00e, h00, e0, e1, e2, SCells, SEta, HCells, HEta, hw, WB20, snSs, hotSs, hcpW, true_and, cp_shift, cp_join, hB', snSst, hotSst, snH, hotH, WB27, WVH_eq hck, hcn, WB15, WVH_eq works_ok]
end Go.Ab.T
end
