/-
  A part of the proofs over this seat.
  (The texts KsK16, one behind the other.)
-/
import Derived.Test.YtapkbaihdcabnaaP5
set_option linter.unusedSimpArgs false
set_option linter.unusedVariables false
set_option linter.unusedSectionVars false
section
namespace Go.Ab.T
set_option maxRecDepth 8000
set_option maxHeartbeats 4000000
/-- What is known of the old report when some are looked at. -/
def OldOK (o : Option Rp) (c i : Int) : Prop := (o = none ∧ c = 0 ∧ i = -1) ∨ ∃ y, o = some y ∧ c = y.cents ∧ i = y.id
theorem OldOK.better {o : Option Rp} {c i : Int} (h : OldOK o c i) {x : Rp} (h0 : 0 ≤ x.id) : OldOK (better o x) (if i < x.id then x.cents else c) (if i < x.id then x.id else i) := by
  rcases h with ⟨rfl, rfl, rfl⟩ | ⟨y, rfl, rfl, rfl⟩
  · rw [if_pos (by omega), if_pos (by omega)]; exact .inr ⟨x, rfl, rfl, rfl⟩
  · show OldOK (if y.id < x.id then some x else some y) _ _
    split
    · exact .inr ⟨x, rfl, rfl, rfl⟩
    · exact .inr ⟨y, rfl, rfl, rfl⟩
theorem audP_any {l : List Rp} {f w : Int} : (pick (audP f w) l).isSome = l.any (audP f w) := by
  cases hp : pick (audP f w) l with
  | none =>
    have := (pickG_none hp).2
    symm; show l.any _ = false
    rw [List.any_eq_false]; exact fun r hr => by rw [this r hr]; decide
  | some y =>
    have := pick_mem hp
    symm; show l.any _ = true
    exact List.any_eq_true.2 ⟨y, this.1, this.2⟩
theorem any_take {α : Type} {l : List α} {p : α → Bool} {k : Nat} {x : α} (hk : l[k]? = some x) : (l.take (k + 1)).any p = ((l.take k).any p || p x) := by
  rw [take_snoc hk, List.any_append]; simp
theorem withB_NF {b : Bk} (h : NF b) (hl : b.rs.length < 40) (r : Rp) : NF (withB b r) := ⟨h.c, by show (b.rs ++ [withR b r]).length < _; rw [List.length_append, List.length_singleton]; omega, h.s⟩
theorem withB_RV {b : Bk} {r : Rp} (h : chk (withB b r) = 0) : RV' (withR b r) := (chk_BV h).rv (withR b r) (by show _ ∈ b.rs ++ [withR b r]; simp)
theorem withB_isOf (b : Bk) (r : Rp) : isOf r.film r.week (withR b r) = true := by unfold isOf withR; simp
theorem withB_lt (b : Bk) (r : Rp) : ∀ x ∈ b.rs, x.id < (withR b r).id := (nxId_le b.rs 0).2
theorem ShareMore_run (b : Bk) (r : Rp) : RV ft 6 [encB b, encR r] (.bool true) := by
  refine RV_of ft6 rfl ?_
  simp only [c6, r6]
  have hV := valid_ok b r.film r.week 0
  cases hv : validM b r.film r.week
  case false =>
    rw [hv] at hV
    simp only [go_sem, Nat.reduceEqDiff, Nat.reduceAdd, Nat.reduceLT, Nat.reduceLeDiff, reduceIte, WB20, WVH_eq hV, true_and, WB16, WVH_eq works_ok]
  rw [hv] at hV
  obtain ⟨h1, h0, c, hs, i0, i1⟩ := validM_iff hv
  have hF := farM_NF h1
  have hb := chk_BV h0
  have hc := hb.cv c (findC_mem hs).1
  have hcf := (findC_mem hs).2
  have z : ((0 : Int) != 0) = false := rfl
  cases c1 : decide ((40 : Int) ≤ (b.rs.length : Int))
  case true => simp only [go_sem, Nat.reduceEqDiff, Nat.reduceAdd, Nat.reduceLT, Nat.reduceLeDiff, reduceIte, WB20, WVH_eq hV, true_and, c1, WB16, WVH_eq works_ok]
  have hl : b.rs.length < 40 := by have := of_decide_eq_false c1; omega
  have hO := with_ok b r hb
  have hFo := withB_NF hF hl r
  have hC := CheckR_ok (withB b r) hFo
  by_cases h2 : chk (withB b r) = 0
  case neg => simp only [go_sem, Nat.reduceEqDiff, Nat.reduceAdd, Nat.reduceLT, Nat.reduceLeDiff, reduceIte, WB20, WVH_eq hV, true_and, c1, WB26, WVH_eq hO, WB15, WVH_eq hC, ne0 h2, WB16, WVH_eq works_ok]
  rw [h2] at hC
  have hR := withB_RV h2
  have hRt : 0 ≤ r.till ∧ r.till ≤ 9 := ⟨hR.t0, hR.t1⟩
  have hRc : 0 ≤ r.cents ∧ r.cents ≤ 10000000 := ⟨hR.c0, hR.c1⟩
  have hRk : r.kind = 1 ∨ r.kind = 2 := hR.k
  have hW := Week_ok b hF r.film r.week
  rw [weekM_some h0 hs i0 i1] at hW
  have hX := Week_ok (withB b r) hFo r.film r.week
  rw [weekM_some h2 (show findC r.film (withB b r).cs = some c from hs) i0 i1] at hX
  have hga : (acc b c r.week).gr = gross b.rs r.film r.week := by rw [← hcf]; rfl
  have hgo : (acc (withB b r) c r.week).gr = gross (b.rs ++ [withR b r]) r.film r.week := by rw [← hcf]; rfl
  have hgb := gross_bound hb.rv r.film r.week
  have hao : acc (withB b r) c r.week = settle b.tax c r.week (gross (b.rs ++ [withR b r]) r.film r.week) := by rw [← hcf]; rfl
  have haa : acc b c r.week = settle b.tax c r.week (gross b.rs r.film r.week) := by rw [← hcf]; rfl
  have hof := withB_isOf b r
  have hlt := withB_lt b r
  have main : ((r.kind == 2) = true → (acc (withB b r) c r.week).gr = r.cents) ∧ ((r.kind == 2) = false → b.rs.any (audP r.film r.week) = true → acc (withB b r) c r.week = acc b c r.week) ∧
      ((r.kind == 2) = false → b.rs.any (audP r.film r.week) = false → ∀ o i, OldOK (pick (tilP r.film r.week r.till) b.rs) o i → 0 ≤ o ∧ o ≤ 10000000 ∧ (acc (withB b r) c r.week).gr = (acc b c r.week).gr - o + r.cents ∧ (o ≤ r.cents → (acc b c r.week).sh ≤ (acc (withB b r) c r.week).sh)) := by
    refine ⟨fun k => ?_, fun k ha => ?_, fun k ha o i hO => ?_⟩
    · rw [hgo]; exact gross_audit hlt hof k
    · have hg := gross_till hlt hof k hR.t0 hR.t1
      rw [← audP_any] at ha
      obtain ⟨y, hy⟩ := Option.isSome_iff_exists.1 ha
      rw [hy] at hg
      rw [hao, haa, hg]
    · have hg := gross_till hlt hof k hR.t0 hR.t1
      rw [← audP_any] at ha
      have hq : pick (audP r.film r.week) b.rs = none := by
        cases hq : pick (audP r.film r.week) b.rs with
        | none => rfl
        | some y => rw [hq] at ha; cases ha
      rw [hq] at hg
      have hg : gross (b.rs ++ [withR b r]) r.film r.week = gross b.rs r.film r.week - tilC b.rs r.film r.week r.till.toNat + r.cents := hg
      have ht : ((r.till.toNat : Nat) : Int) = r.till := by omega
      have ho : tilC b.rs r.film r.week r.till.toNat = o := by
        unfold tilC
        rw [ht]
        rcases hO with ⟨h1, h2, _⟩ | ⟨y, h1, h2, _⟩
        · rw [h1, h2]
        · rw [h1, h2]
      have hob := tilC_bound hb.rv r.film r.week r.till.toNat
      rw [ho] at hg hob
      refine ⟨hob.1, hob.2, by rw [hgo, hga, hg], fun h => ?_⟩
      rw [hao, haa]
      exact share_mono hb.x0 hb.x1 hc r.week hgb.1 (by rw [hg]; omega)
  have hAA := acc_AcB hb hc r.week
  generalize acc (withB b r) c r.week = A2 at main hX
  generalize acc b c r.week = A1 at main hW hAA hga
  obtain ⟨m1, m2, m3⟩ := main
  simp only [go_sem, Nat.reduceEqDiff, Nat.reduceAdd, Nat.reduceLT, Nat.reduceLeDiff, reduceIte, WB20, WVH_eq hV, true_and, c1, WB26, WVH_eq hO, WB15, WVH_eq hC, z, WB19, WVH_eq hW, WVH_eq hX]
  refine WL_inv (α := Nat × List Rp × Int × Int) (fun q e mm => e 2 = .ptr 0 0 0 ∧ e 3 = .ptr 1 0 0 ∧ e 6 = .ptr 3 0 0 ∧ e 8 = .ptr 4 0 0 ∧ e 10 = .bool ((b.rs.take q.1).any (audP r.film r.week)) ∧ e 11 = I64 q.2.2.1 ∧ e 12 = I64 q.2.2.2 ∧ e 13 = I64 q.1 ∧ b.rs.drop q.1 = q.2.1 ∧ OldOK (pick (tilP r.film r.week r.till) (b.rs.take q.1)) q.2.2.1 q.2.2.2 ∧ ∃ bl tk, mm = ⟨.live [encB b] 3 :: .live [encR r] 6 :: .live [encB (withB b r)] 3 :: .live [encA A1] 6 :: .live [encA A2] 6 :: bl, tk⟩) (fun q => q.2.1.length) (0, b.rs, 0, -1) ?_ ?_
  · simp only [go_sem, Nat.reduceEqDiff, Nat.reduceAdd, Nat.reduceLT, Nat.reduceLeDiff, reduceIte]
    exact ⟨trivial, trivial, trivial, trivial, trivial, trivial, trivial, rfl, trivial, .inl ⟨rfl, rfl, rfl⟩, _, _, rfl⟩
  rintro ⟨k, l, o, i⟩ e m ⟨g2, g3, g6, g8, g10, g11, g12, g13, hd, hO, bl, tk, rfl⟩
  dsimp only at g10 g11 g12 g13 hd hO
  cases l with
  | cons x l =>
    obtain ⟨hk, hd2, hlt⟩ := drop_cons hd
    have hvx := hb.rv x (List.mem_of_getElem? hk)
    cases e1 : (x.film == r.film)
    case false =>
      simp only [go_sem, Nat.reduceEqDiff, Nat.reduceAdd, Nat.reduceLT, Nat.reduceLeDiff, reduceIte, g2, g3, g6, g8, g10, g11, g12, g13, dec_lt hlt, Rs_idx hk, bne_not, e1, wrap_n1 k (by omega)]
      refine Nx_of (k + 1, l, o, i) (by simp) ?_
      simp only [go_sem, Nat.reduceEqDiff, Nat.reduceAdd, Nat.reduceLT, Nat.reduceLeDiff, reduceIte, g2, g3, g6, g8, g10, g11, g12]
      refine ⟨trivial, trivial, trivial, trivial, ?_, trivial, trivial, trivial, hd2, ?_, _, _, rfl⟩
      · rw [any_take hk]; unfold audP isOf; simp [e1]
      · rw [take_snoc hk, pick_snoc']; rw [if_neg (by unfold tilP isOf; simp [e1])]; exact hO
    cases e2 : (x.week == r.week)
    case false =>
      simp only [go_sem, Nat.reduceEqDiff, Nat.reduceAdd, Nat.reduceLT, Nat.reduceLeDiff, reduceIte, g2, g3, g6, g8, g10, g11, g12, g13, dec_lt hlt, Rs_idx hk, bne_not, e1, wrap_n1 k (by omega), e2]
      refine Nx_of (k + 1, l, o, i) (by simp) ?_
      simp only [go_sem, Nat.reduceEqDiff, Nat.reduceAdd, Nat.reduceLT, Nat.reduceLeDiff, reduceIte, g2, g3, g6, g8, g10, g11, g12]
      refine ⟨trivial, trivial, trivial, trivial, ?_, trivial, trivial, trivial, hd2, ?_, _, _, rfl⟩
      · rw [any_take hk]; unfold audP isOf; simp [e1, e2]
      · rw [take_snoc hk, pick_snoc']; rw [if_neg (by unfold tilP isOf; simp [e1, e2])]; exact hO
    rcases hvx.k with e3 | e3
    case inr =>
      cases e4 : ((b.rs.take k).any (audP r.film r.week))
      all_goals
        simp only [go_sem, Nat.reduceEqDiff, Nat.reduceAdd, Nat.reduceLT, Nat.reduceLeDiff, reduceIte, g2, g3, g6, g8, g10, g11, g12, g13, dec_lt hlt, Rs_idx hk, bne_not, e1, wrap_n1 k (by omega), e2, e3, e4, show ((2 : Int) == 2) = true from rfl, show ((2 : Int) == 1) = false from rfl]
        refine Nx_of (k + 1, l, o, i) (by simp) ?_
        simp only [go_sem, Nat.reduceEqDiff, Nat.reduceAdd, Nat.reduceLT, Nat.reduceLeDiff, reduceIte, g2, g3, g6, g8, g10, g11, g12]
        refine ⟨trivial, trivial, trivial, trivial, ?_, trivial, trivial, trivial, hd2, ?_, _, _, rfl⟩
        · rw [any_take hk]; rw [e4]; unfold audP isOf; simp [e1, e2, e3]
        · rw [take_snoc hk, pick_snoc']; rw [if_neg (by unfold tilP isOf; simp [e1, e2, e3])]; exact hO
    case inl =>
      cases e4 : ((b.rs.take k).any (audP r.film r.week))
      all_goals
        cases e5 : (x.till == r.till)
        case false =>
          simp only [go_sem, Nat.reduceEqDiff, Nat.reduceAdd, Nat.reduceLT, Nat.reduceLeDiff, reduceIte, g2, g3, g6, g8, g10, g11, g12, g13, dec_lt hlt, Rs_idx hk, bne_not, e1, wrap_n1 k (by omega), e2, e3, e4, e5, show ((1 : Int) == 2) = false from rfl, show ((1 : Int) == 1) = true from rfl]
          refine Nx_of (k + 1, l, o, i) (by simp) ?_
          simp only [go_sem, Nat.reduceEqDiff, Nat.reduceAdd, Nat.reduceLT, Nat.reduceLeDiff, reduceIte, g2, g3, g6, g8, g10, g11, g12]
          refine ⟨trivial, trivial, trivial, trivial, ?_, trivial, trivial, trivial, hd2, ?_, _, _, rfl⟩
          · rw [any_take hk]; rw [e4]; unfold audP isOf; simp [e1, e2, e3]
          · rw [take_snoc hk, pick_snoc']; rw [if_neg (by unfold tilP isOf; simp [e1, e2, e3, e5])]; exact hO
        have hOb := hO.better hvx.i0
        cases e6 : decide (i < x.id)
        · rw [if_neg (of_decide_eq_false e6), if_neg (of_decide_eq_false e6)] at hOb
          simp only [go_sem, Nat.reduceEqDiff, Nat.reduceAdd, Nat.reduceLT, Nat.reduceLeDiff, reduceIte, g2, g3, g6, g8, g10, g11, g12, g13, dec_lt hlt, Rs_idx hk, bne_not, e1, wrap_n1 k (by omega), e2, e3, e4, e5, e6, show ((1 : Int) == 2) = false from rfl, show ((1 : Int) == 1) = true from rfl]
          refine Nx_of (k + 1, l, o, i) (by simp) ?_
          simp only [go_sem, Nat.reduceEqDiff, Nat.reduceAdd, Nat.reduceLT, Nat.reduceLeDiff, reduceIte, g2, g3, g6, g8, g10, g11, g12]
          refine ⟨trivial, trivial, trivial, trivial, ?_, trivial, trivial, trivial, hd2, ?_, _, _, rfl⟩
          · rw [any_take hk]; rw [e4]; unfold audP isOf; simp [e1, e2, e3]
          · rw [take_snoc hk, pick_snoc']; rw [if_pos (by unfold tilP isOf; simp [e1, e2, e3, e5])]; exact hOb
        · rw [if_pos (of_decide_eq_true e6), if_pos (of_decide_eq_true e6)] at hOb
          simp only [go_sem, Nat.reduceEqDiff, Nat.reduceAdd, Nat.reduceLT, Nat.reduceLeDiff, reduceIte, g2, g3, g6, g8, g10, g11, g12, g13, dec_lt hlt, Rs_idx hk, bne_not, e1, wrap_n1 k (by omega), e2, e3, e4, e5, e6, show ((1 : Int) == 2) = false from rfl, show ((1 : Int) == 1) = true from rfl]
          refine Nx_of (k + 1, l, x.cents, x.id) (by simp) ?_
          simp only [go_sem, Nat.reduceEqDiff, Nat.reduceAdd, Nat.reduceLT, Nat.reduceLeDiff, reduceIte, g2, g3, g6, g8, g10, g11, g12]
          refine ⟨trivial, trivial, trivial, trivial, ?_, trivial, trivial, trivial, hd2, ?_, _, _, rfl⟩
          · rw [any_take hk]; rw [e4]; unfold audP isOf; simp [e1, e2, e3]
          · rw [take_snoc hk, pick_snoc']; rw [if_pos (by unfold tilP isOf; simp [e1, e2, e3, e5])]; exact hOb
  | nil =>
  have h3 := drop_nil hd
  have htk : b.rs.take k = b.rs := List.take_of_length_le h3
  rw [htk] at hO g10
  cases e1 : (r.kind == 2)
  case true =>
    have e2 : (A2.gr == r.cents) = true := beq_iff_eq.2 (m1 e1)
    simp only [go_sem, Nat.reduceEqDiff, Nat.reduceAdd, Nat.reduceLT, Nat.reduceLeDiff, reduceIte, g2, g3, g6, g8, g10, g11, g12, g13, dec_ge h3, e1, e2, WB16, WVH_eq works_ok, true_and]
  case false =>
    cases e3 : b.rs.any (audP r.film r.week)
    case true =>
      rw [e3] at g10
      obtain rfl := m2 e1 e3
      simp only [go_sem, Nat.reduceEqDiff, Nat.reduceAdd, Nat.reduceLT, Nat.reduceLeDiff, reduceIte, g2, g3, g6, g8, g10, g11, g12, g13, dec_ge h3, e1, eqA_self, Bool.false_eq_true, if_false, WB16, WVH_eq works_ok, true_and]
    case false =>
      rw [e3] at g10
      obtain ⟨o0, o1, hgr, hsh⟩ := m3 e1 e3 o i hO
      have w1 : IntKind.i64.wrap (A1.gr - o) = A1.gr - o := wrap_i64 _ (by omega) (by omega)
      have w2 : IntKind.i64.wrap (A1.gr - o + r.cents) = A2.gr := by rw [wrap_i64 _ (by omega) (by omega), hgr]
      have e2 : (A2.gr == A2.gr) = true := beq_self_eq_true _
      cases e4 : decide (r.cents < o)
      case true => simp only [go_sem, Nat.reduceEqDiff, Nat.reduceAdd, Nat.reduceLT, Nat.reduceLeDiff, reduceIte, g2, g3, g6, g8, g10, g11, g12, g13, dec_ge h3, e1, w1, w2, e2, e4, WB16, WVH_eq works_ok, true_and]
      case false =>
        have e5 : decide (A1.sh ≤ A2.sh) = true := decide_eq_true (hsh (by have := of_decide_eq_false e4; omega))
        simp only [go_sem, Nat.reduceEqDiff, Nat.reduceAdd, Nat.reduceLT, Nat.reduceLeDiff, reduceIte, g2, g3, g6, g8, g10, g11, g12, g13, dec_ge h3, e1, w1, w2, e2, e4, e5, WB16, WVH_eq works_ok, true_and]
end Go.Ab.T
end
