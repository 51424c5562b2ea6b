/-
 The law KeysFind answers true for every library, every wish and every question. Conditions: none.
 (The texts KxRowFind, one behind the other.)
-/
import Derived.Test.YtnikcghmcaegbaaGreatRw
import Derived.Test.YtnikcghmcaegbaaGreatP2
set_option linter.unusedSimpArgs false
set_option linter.unusedVariables false
set_option linter.unusedSectionVars false
section
namespace Go.Proofs.YtnikcghmcaegbaaGreat
open Go Go.ChangeShapes Go.WideShapes Go.ChangeAt Go.WideMaps Go.WideElems Go.RowKit Go.Ab
set_option maxRecDepth 100000
theorem lift12 (os : Os) (started : os.Started) (H : Type) (enc : TypeId × Value → H) :
  ReturnsInHanded {} Tryz.checked os 12 .any (Rows.keysFindSpec.pre6 enc Tryz.prog Tryz.f12 [] false) (Rows.keysFindSpec.post enc Tryz.prog Tryz.f12 false true false false) := by
 refine returnsInHanded_of_change_sized (C := Tryz.checked) own started (by kernel_rfl) Tryz.func12
  (ChangeSpec.witness6 (enc := enc) (C := Tryz.checked) (os := os) false ⟨#[], #[.agg #[.slice Option.none 0 0, .slice Option.none 0 0, .slice Option.none 0 0, .slice Option.none 0 0, .slice Option.none 0 0], .agg #[.int .i64 0, .int .i64 0, .int .i64 0, .int .i64 0, .int .i64 0, .bool false, .slice Option.none 0 0], .agg #[.int .i64 0, .int .i64 0, .int .i64 0]], []⟩ 8 (by kernel_rfl) (by kernel_rfl) (by kernel_rfl) (by kernel_rfl)) ?_
 intro W base args ds gs before hval0 hW _ _ _
 have hval : ∀ (j : Nat) t v, Tryz.f12.params[j]? = some t → args[j]? = some v → Value.okWide Tryz.prog W .any base t v := hval0
 have hW' := hW
 obtain ⟨p, q, hA0, hV, rfl, hfz, hnd⟩ := hW
 have hA : DataW.TrodAll enc Tryz.prog W 0 (fun _ => true) true Tryz.f12.params.toList args.toList ds p := hA0
 have hp3 : Tryz.f12.params.toList = [28, 47, 30] := by kernel_rfl
 have hp3' : Tryz.f12.params = #[28, 47, 30] := by kernel_rfl
 rw [hp3] at hA
 rw [hp3'] at hval
 obtain ⟨v0, v1, v2, d0, d1, d2, p0, p1, p2, h1, rfl, _, h00, h01, h02⟩ := trodAll_three hA
 subst h1
 obtain ⟨xs0, c0, g0⟩ := arg_struct ty28 u28 (hval 0 28 v0 rfl rfl) h00
 obtain ⟨x0, e0⟩ := lib_of c0
 rw [e0] at g0
 obtain ⟨xs1, c1, g1⟩ := arg_struct ty47 u47 (hval 1 47 v1 rfl rfl) h01
 obtain ⟨x1, e1⟩ := comp_of c1
 replace e1 : AV.agg xs1 = _ := e1
 rw [e1] at g1
 obtain ⟨xs2, c2, g2⟩ := arg_struct ty30 u30 (hval 2 30 v2 rfl rfl) h02
 obtain ⟨x2, e2⟩ := ask_of c2
 rw [e2] at g2
 refine (calls_bool T.C_ok glob_of (us := #[v0, v1, v2]) ⟨rfl, fun i a u ha hu => ?_⟩ (T.KeysFind_run x0 x1 x2)).mono fun e W' he => ?_
 ·rcases i with _ | _ | _ | i
  ·simp at ha hu; subst ha; subst hu; exact g0
  ·simp at ha hu; subst ha; subst hu; exact g1
  ·simp at ha hu; subst ha; subst hu; exact g2
  ·simp at ha
 ·obtain ⟨rfl, hg⟩ := he
  exact ⟨_, rfl, law_post (tb := 4) (by kernel_rfl) (by rw [hp3]; intro t ht; simp at ht; rcases ht with rfl | rfl | rfl <;> exact ⟨by kernel_rfl, of_decide_eq_true (by kernel_rfl)⟩) rfl (by kernel_rfl) u4 rfl hW' hg⟩
theorem keysFind_holds : Rows.KeysFindSaid :=
 OpenClaim.holds_of_wide 12 Tryz.f12 rfl rfl rfl rfl rfl rfl rfl ⟨rfl, rfl, rfl, rfl, rfl⟩ rfl rfl rfl rfl rfl (by kernel_rfl) Tryz.func12 (by kernel_rfl)
  (of_decide_eq_true (by kernel_rfl)) (by unfold Func.isWrapper; first | (rw [if_pos (by decide +kernel)]; kernel_rfl) | (rw [if_neg (by decide +kernel)]; exact ⟨rfl, rfl⟩))
  (fun os started H enc _ => lift12 os started H enc)
end Go.Proofs.YtnikcghmcaegbaaGreat
end
