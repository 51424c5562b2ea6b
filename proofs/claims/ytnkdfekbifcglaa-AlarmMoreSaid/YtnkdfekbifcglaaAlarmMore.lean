/-
  THE THEOREM OF MORE holds of every house, minute and change, without further conditions: AlarmMoreSaid.
  (The texts KrR8, one behind the other.)
-/
import Derived.Test.YtnkdfekbifcglaaRw
import Derived.Test.YtnkdfekbifcglaaRm
import Derived.Test.YtnkdfekbifcglaaP16
set_option linter.unusedSimpArgs false
set_option linter.unusedVariables false
set_option linter.unusedSectionVars false
section
namespace Go.Proofs.Ytnkdfekbifcglaa
open Go Go.ChangeShapes Go.WideShapes Go.ChangeAt Go.WideMaps Go.WideElems Go.RowKit Go.Ab
set_option maxRecDepth 100000
theorem lift8 (os : Os) (started : os.Started) (H : Type) (enc : TypeId × Value → H) :
    ReturnsInHanded {} Try.checked os 8 .any (Rows.alarmMoreSpec.pre6 enc Try.prog Try.f8 [] false) (Rows.alarmMoreSpec.post enc Try.prog Try.f8 false true false false) := by
  refine returnsInHanded_of_change_sized (C := Try.checked) own started (by kernel_rfl) Try.func8
    (ChangeSpec.witness6 (enc := enc) (C := Try.checked) (os := os) false ⟨#[], #[.agg #[.slice Option.none 0 0, .slice Option.none 0 0], .int .i64 0, .agg #[.int .i64 0, .int .i64 0, .int .i64 0, .int .i64 0, .int .i64 0, .int .i64 0, .int .i64 0, .int .i64 0, .int .i64 0]], []⟩ 8 (by kernel_rfl) (by kernel_rfl) (by kernel_rfl) (by kernel_rfl)) ?_
  intro W base args ds gs before hval0 hW _ _ _
  have hval : ∀ (j : Nat) t v, Try.f8.params[j]? = some t → args[j]? = some v → Value.okWide Try.prog W .any base t v := hval0
  have hW' := hW
  obtain ⟨p, q, hA0, hV, rfl, hfz, hnd⟩ := hW
  have hA : DataW.TrodAll enc Try.prog W 0 (fun _ => true) true Try.f8.params.toList args.toList ds p := hA0
  have hp3 : Try.f8.params.toList = [25, 3, 59] := by kernel_rfl
  have hp3' : Try.f8.params = #[25, 3, 59] := by kernel_rfl
  rw [hp3] at hA
  rw [hp3'] at hval
  obtain ⟨v0, v1, v2, d0, d1, d2, p0, p1, p2, h1, rfl, _, h00, h01, h02⟩ := trodAll_three hA
  subst h1
  obtain ⟨xs0, c0, g0⟩ := arg_struct ty25 u25 (hval 0 25 v0 rfl rfl) h00
  obtain ⟨x0, e0⟩ := house_of c0
  rw [e0] at g0
  obtain ⟨x1, _, g1⟩ := arg_int ty3 u3 (hval 1 3 v1 rfl rfl) h01
  obtain ⟨xs2, c2, g2⟩ := arg_struct ty59 u59 (hval 2 59 v2 rfl rfl) h02
  obtain ⟨x2, e2⟩ := more_of c2
  rw [e2] at g2
  refine (calls_bool T.C_ok glob_of (us := #[v0, v1, v2]) ⟨rfl, fun i a u ha hu => ?_⟩ (T.More_ok x0 x1 x2)).mono fun e W' he => ?_
  · rcases i with _ | _ | _ | i
    · simp at ha hu; subst ha; subst hu; exact g0
    · simp at ha hu; subst ha; subst hu; exact g1
    · simp at ha hu; subst ha; subst hu; exact g2
    · simp at ha
  · obtain ⟨rfl, hg⟩ := he
    exact ⟨_, rfl, law_post (tb := 4) (by kernel_rfl) (by rw [hp3]; intro t ht; simp at ht; rcases ht with rfl | rfl | rfl <;> exact ⟨by kernel_rfl, of_decide_eq_true (by kernel_rfl)⟩) rfl (by kernel_rfl) u4 rfl hW' hg⟩
theorem alarmMore_holds : Rows.AlarmMoreSaid :=
  OpenClaim.holds_of_wide 8 Try.f8 rfl rfl rfl rfl rfl rfl rfl ⟨rfl, rfl, rfl, rfl, rfl⟩ rfl rfl rfl rfl rfl (by kernel_rfl) Try.func8 (by kernel_rfl)
    (of_decide_eq_true (by kernel_rfl)) (by unfold Func.isWrapper; first | (rw [if_pos (by decide +kernel)]; kernel_rfl) | (rw [if_neg (by decide +kernel)]; exact ⟨rfl, rfl⟩))
    (fun os started H enc _ => lift8 os started H enc)
end Go.Proofs.Ytnkdfekbifcglaa
end
