/-
  THE THEOREM OF THE EARLIEST MINUTE holds of every house, without further conditions: AlarmEarliestSaid.
  (The texts KrR7, one behind the other.)
-/
import Derived.Test.YtnkdfekbifcglaaRw
import Derived.Test.YtnkdfekbifcglaaP10
set_option linter.unusedSimpArgs false
set_option linter.unusedVariables false
set_option linter.unusedSectionVars false
section
namespace Go.Proofs.Ytnkdfekbifcglaa
open Go Go.ChangeShapes Go.WideShapes Go.ChangeAt Go.WideMaps Go.WideElems Go.RowKit Go.Ab
set_option maxRecDepth 100000
theorem lift7 (os : Os) (started : os.Started) (H : Type) (enc : TypeId × Value → H) :
    ReturnsInHanded {} Try.checked os 7 .any (Rows.alarmEarliestSpec.pre6 enc Try.prog Try.f7 [] false) (Rows.alarmEarliestSpec.post enc Try.prog Try.f7 false true false false) := by
  refine returnsInHanded_of_change_sized (C := Try.checked) own started (by kernel_rfl) Try.func7
    (ChangeSpec.witness6 (enc := enc) (C := Try.checked) (os := os) false ⟨#[], #[.agg #[.slice Option.none 0 0, .slice Option.none 0 0]], []⟩ 8 (by kernel_rfl) (by kernel_rfl) (by kernel_rfl) (by kernel_rfl)) ?_
  intro W base args ds gs before hval0 hW _ _ _
  have hval : ∀ (j : Nat) t v, Try.f7.params[j]? = some t → args[j]? = some v → Value.okWide Try.prog W .any base t v := hval0
  have hW' := hW
  obtain ⟨p, q, hA0, hV, rfl, hfz, hnd⟩ := hW
  have hA : DataW.TrodAll enc Try.prog W 0 (fun _ => true) true Try.f7.params.toList args.toList ds p := hA0
  have hp3 : Try.f7.params.toList = [25] := by kernel_rfl
  have hp3' : Try.f7.params = #[25] := by kernel_rfl
  rw [hp3] at hA
  rw [hp3'] at hval
  obtain ⟨v0, d0, h1, rfl, h00⟩ := trodAll_one hA
  subst h1
  obtain ⟨xs0, c0, g0⟩ := arg_struct ty25 u25 (hval 0 25 v0 rfl rfl) h00
  obtain ⟨x0, e0⟩ := house_of c0
  rw [e0] at g0
  refine (calls_bool T.C_ok glob_of (us := #[v0]) ⟨rfl, fun i a u ha hu => ?_⟩ (T.Earliest_ok x0)).mono fun e W' he => ?_
  · rcases i with _ | i
    · simp at ha hu; subst ha; subst hu; exact g0
    · simp at ha
  · obtain ⟨rfl, hg⟩ := he
    exact ⟨_, rfl, law_post (tb := 4) (by kernel_rfl) (by rw [hp3]; intro t ht; simp at ht; subst ht; exact ⟨by kernel_rfl, of_decide_eq_true (by kernel_rfl)⟩) rfl (by kernel_rfl) u4 rfl hW' hg⟩
theorem alarmEarliest_holds : Rows.AlarmEarliestSaid :=
  OpenClaim.holds_of_wide 7 Try.f7 rfl rfl rfl rfl rfl rfl rfl ⟨rfl, rfl, rfl, rfl, rfl⟩ rfl rfl rfl rfl rfl (by kernel_rfl) Try.func7 (by kernel_rfl)
    (of_decide_eq_true (by kernel_rfl)) (by unfold Func.isWrapper; first | (rw [if_pos (by decide +kernel)]; kernel_rfl) | (rw [if_neg (by decide +kernel)]; exact ⟨rfl, rfl⟩))
    (fun os started H enc _ => lift7 os started H enc)
end Go.Proofs.Ytnkdfekbifcglaa
end
