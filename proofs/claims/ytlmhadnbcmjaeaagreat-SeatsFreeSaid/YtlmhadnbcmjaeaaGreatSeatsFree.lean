/-
  Best, Largest and Groups return what the document specifies.
  (The texts KqR4, one behind the other.)
-/
import Derived.Test.YtlmhadnbcmjaeaaGreatRw2
import Derived.Test.YtlmhadnbcmjaeaaGreatP14
set_option linter.unusedSimpArgs false
set_option linter.unusedVariables false
set_option linter.unusedSectionVars false
section
namespace Go.Proofs.YtlmhadnbcmjaeaaGreat
open Go Go.ChangeShapes Go.WideShapes Go.ChangeAt Go.WideMaps Go.WideElems Go.RowKit Go.Ab
set_option maxRecDepth 100000
theorem lift4 (os : Os) (started : os.Started) (H : Type) (enc : TypeId × Value → H) :
    ReturnsInHanded {} Tryz.checked os 4 .any (Rows.seatsFreeSpec.pre6 enc Tryz.prog Tryz.f4 [] false) (Rows.seatsFreeSpec.post enc Tryz.prog Tryz.f4 false true false false) := by
  refine returnsInHanded_of_change_sized (C := Tryz.checked) own started (by kernel_rfl) Tryz.func4
    (ChangeSpec.witness6 (enc := enc) (C := Tryz.checked) (os := os) false ⟨#[], #[.agg #[.slice Option.none 0 0, .int .i64 0], .slice Option.none 0 0, .agg #[.int .i64 0, .int .i64 0, .int .i64 0]], []⟩ 8 (by kernel_rfl) (by kernel_rfl) (by kernel_rfl) (by kernel_rfl)) ?_
  intro W base args ds gs before hval0 hW _ _ _
  have hval : ∀ (j : Nat) t v, Tryz.f4.params[j]? = some t → args[j]? = some v → Value.okWide Tryz.prog W .any base t v := hval0
  have hW' := hW
  obtain ⟨p, q, hA0, hV, rfl, hfz, hnd⟩ := hW
  have hA : DataW.TrodAll enc Tryz.prog W 0 (fun _ => true) true Tryz.f4.params.toList args.toList ds p := hA0
  have hp3 : Tryz.f4.params.toList = [24, 25, 27] := by kernel_rfl
  have hp3' : Tryz.f4.params = #[24, 25, 27] := by kernel_rfl
  rw [hp3] at hA
  rw [hp3'] at hval
  obtain ⟨v0, v1, v2, d0, d1, d2, p0, p1, p2, h1, rfl, _, h00, h01, h02⟩ := trodAll_three hA
  subst h1
  obtain ⟨xs0, c0, g0⟩ := arg_struct ty24 u24 (hval 0 24 v0 rfl rfl) h00
  obtain ⟨x0, e0, _⟩ := hall_of c0
  rw [e0] at g0
  obtain ⟨es1, ⟨_, b1, _, c1⟩, g1⟩ := arg_slice ty25 u25 (hval 1 25 v1 rfl rfl) h01
  cases b1
  obtain ⟨x1, e1⟩ := calls_of c1
  rw [e1] at g1
  obtain ⟨xs2, c2, g2⟩ := arg_struct ty27 u27 (hval 2 27 v2 rfl rfl) h02
  obtain ⟨x2, e2⟩ := ask_of c2
  rw [e2] at g2
  refine (calls_bool T.C_ok glob_of (us := #[v0, v1, v2]) ⟨rfl, fun i a u ha hu => ?_⟩ (T.SeatsFree_run x0 x1 x2)).mono fun e W' he => ?_
  · rcases i with _ | _ | _ | i
    · simp at ha hu; subst ha; subst hu; exact g0
    · simp at ha hu; subst ha; subst hu; exact g1
    · simp at ha hu; subst ha; subst hu; exact g2
    · simp at ha
  · obtain ⟨rfl, hg⟩ := he
    exact ⟨_, rfl, law_post (tb := 4) (by kernel_rfl) (by rw [hp3]; intro t ht; simp at ht; rcases ht with rfl | rfl | rfl <;> exact ⟨by kernel_rfl, of_decide_eq_true (by kernel_rfl)⟩) rfl (by kernel_rfl) u4 rfl hW' hg⟩
theorem seatsFree_holds : Rows.SeatsFreeSaid :=
  OpenClaim.holds_of_wide 4 Tryz.f4 rfl rfl rfl rfl rfl rfl rfl ⟨rfl, rfl, rfl, rfl, rfl⟩ rfl rfl rfl rfl rfl (by kernel_rfl) Tryz.func4 (by kernel_rfl)
    (of_decide_eq_true (by kernel_rfl)) (by unfold Func.isWrapper; first | (rw [if_pos (by decide +kernel)]; kernel_rfl) | (rw [if_neg (by decide +kernel)]; exact ⟨rfl, rfl⟩))
    (fun os started H enc _ => lift4 os started H enc)
end Go.Proofs.YtlmhadnbcmjaeaaGreat
end
