/-
 A part of the proofs over this seat.
 (The texts KhK27 KhK29 KhK30, one behind the other.)
-/
import Derived.Test.YtlmhadnbcmjaeaaP9
import Derived.Test.YtlmhadnbcmjaeaaP1
set_option linter.unusedSimpArgs false
set_option linter.unusedVariables false
set_option linter.unusedSectionVars false
section
namespace Go.Ab.T
set_option maxRecDepth 8000
set_option maxHeartbeats 4000000
structure Ak where
 min : Int
 ord : Int
 siz : Int
def encA (x : Ak) : AV := .agg [I64 x.min, I64 x.ord, I64 x.siz]
theorem ACells (x : Ak) : (encA x).cells = [I64 x.min, I64 x.ord, I64 x.siz] := rfl
theorem valid_of {h : Hl} {l : List Cl} {m : Int} (hv : validB h l m = true) : lisE h l m = 0 ∧ okH h = true ∧ HB (afterM h l m) 40 ∧ lensM (afterM h l m).seats = h.rows := by
 unfold validB at hv
 rw [Bool.and_eq_true, Bool.and_eq_true, Bool.and_eq_true, beq_iff_eq, decide_eq_true_eq, decide_eq_true_eq] at hv
 have he : lisE h l m = 0 := by
  unfold lisE
  rw [if_pos hv.2.1, if_pos]
  unfold inR
  rw [Bool.and_eq_true, decide_eq_true_eq, decide_eq_true_eq]
  exact hv.2.2
 obtain ⟨ho, _⟩ := chk_ok hv.2.1
 exact ⟨he, ho, after_HB he, lens_after (okH_all ho).1 l m⟩
end Go.Ab.T
end
section
namespace Go.Ab.T
set_option maxRecDepth 8000
set_option maxHeartbeats 4000000
instance : DecidableEq Pc := fun p q => decidable_of_iff (p.st = q.st ∧ p.row = q.row ∧ p.seat = q.seat ∧ p.size = q.size) ⟨fun ⟨a, b, c, d⟩ => by cases p; cases q; cases a; cases b; cases c; cases d; rfl, fun e => by rw [e]; exact ⟨rfl, rfl, rfl, rfl⟩⟩
end Go.Ab.T
end
section
namespace Go.Ab.T
set_option maxRecDepth 8000
set_option maxHeartbeats 4000000
theorem ap0C (bl : List Blk) (l : List Cl) (hl : l.length ≤ 1000) : ∃ v1 t1, appendAt ⟨bl, []⟩ false (.sl [] .tight) (encCs l) 44 5 40 = some (v1, ⟨bl, t1⟩) ∧ Acc 44 (l.map encC) v1 t1 := by
 have h2 : (0 + l.length) * (40 + 1) ≤ limit := by unfold limit; omega
 cases l with
 | nil => exact ⟨_, _, rfl, Acc_nil 44⟩
 | cons c r =>
  refine ⟨.sl ((c :: r).map encC) (.at 0), [((c :: r).length, 44)], ?_, .inr ⟨by simp, rfl, by simp⟩⟩
  have h1 : hdSz ((c :: r).map encC) 5 = true := rfl
  simp only [appendAt, encCs, Mem.elems, h1, List.length_nil, List.length_map, h2, hdSz, true_and, appTk]
  simp [CCells]
theorem cellsC (l : List Cl) : ∀ e ∈ l.map encC, e.cells.length = 5 := fun e he => by
 obtain ⟨c, _, rfl⟩ := List.mem_map.1 he; rfl
theorem snCsA (m : Mem) (q : Nat) (l : List Cl) (t : Tk) : Ab.snap m (q + 3) (.sl (l.map encC) t) = encCs l := by
 show AV.sl ((l.map encC).map (Ab.snap m (q + 2))) .unk = _
 rw [List.map_map, show Ab.snap m (q + 2) ∘ encC = encC from funext fun c => snC m q c]; rfl
theorem hotCsA (q : Nat) (l : List Cl) (t : Tk) : hot (q + 3) (.sl (l.map encC) t) = false := by
 show (l.map encC).any (hot (q + 2)) = false
 rw [List.any_map, List.any_eq_false]; intro c _
 simp only [Function.comp]
 rw [show hot (q + 2) (encC c) = false from hotC q c]; decide
end Go.Ab.T
end
