/-
  The law ReelSpans answers true for every reel, and leaves it as it was. Conditions: none but the given card's own (what the three listed tables hold is tied to the program's text).
  (The texts AxRowSpans, one behind the other.)
-/
import Derived.Test.YtbbpdlobjbpchaaDoorRw
import Derived.Test.YtbbpdlobjbpchaaDoorP6
set_option linter.unusedSimpArgs false
set_option linter.unusedVariables false
set_option linter.unusedSectionVars false
section
namespace Go.Proofs.YtbbpdlobjbpchaaDoor
open Go Go.ChangeShapes Go.WideShapes Go.ChangeAt Go.WideMaps Go.WideElems Go.RowKit Go.Ab
set_option maxRecDepth 100000
theorem lift3 (os : Os) (started : os.Started) (H : Type) (enc : TypeId × Value → H) :
    ReturnsInHanded {} Tryd.checked os 3 .any (fun w args => (Rows.reelSpansSpec.pre enc Tryd.prog Tryd.f3 [] false w args ∧ laidMetH Tryd.prog laid3 w) ∧ sizedMet enc Tryd.prog Tryd.f3 (OpenSpec.ofChange Rows.reelSpansSpec) false w args)
      (Rows.reelSpansSpec.post enc Tryd.prog Tryd.f3 false true false false) := by
  refine returnsInHanded_of_change_and (C := Tryd.checked) (X := fun w _ => laidMetH Tryd.prog laid3 w) (fun _ _ _ hh h => h.of_heap hh) own started (by kernel_rfl) Tryd.func3
    (ChangeSpec.witness_shaped (enc := enc) (C := Tryd.checked) (os := os) (X := fun w _ => laidMetH Tryd.prog laid3 w) false (World.doorLaid Tryd.prog 400 os) #[.agg #[.int .i64 0, .slice Option.none 0 0]] 8 rfl (World.shaped_of_RefB (by kernel_rfl) (by kernel_rfl)) (by kernel_rfl) (by kernel_rfl) (by kernel_rfl) (door_met os _)) ?_
  intro W base args ds gs before hval0 hW _ _ hL _
  have hval : ∀ (j : Nat) t v, Tryd.f3.params[j]? = some t → args[j]? = some v → Value.okWide Tryd.prog W .any base t v := hval0
  have hW' := hW
  obtain ⟨p, q, hA0, hV, rfl, hfz, hnd⟩ := hW
  have hA : DataW.TrodAll enc Tryd.prog W 0 (fun _ => true) true Tryd.f3.params.toList args.toList ds p := hA0
  have hp3 : Tryd.f3.params.toList = [24] := by kernel_rfl
  have hp3' : Tryd.f3.params = #[24] := by kernel_rfl
  rw [hp3] at hA
  rw [hp3'] at hval
  obtain ⟨v0, d0, h1, rfl, h00⟩ := trodAll_one hA
  subst h1
  obtain ⟨xs0, c0, g0⟩ := arg_struct ty24 u24 (hval 0 24 v0 rfl rfl) h00
  obtain ⟨x0, e0, _⟩ := reel_of c0
  rw [e0] at g0
  refine (calls_bool T.C_ok (glob_of hL) (us := #[v0]) ⟨rfl, fun i a u ha hu => ?_⟩ (T.ReelSpans_run x0)).mono fun e W' he => ?_
  · rcases i with _ | i
    · simp at ha hu; subst ha; subst hu; exact g0
    · simp at ha
  · obtain ⟨rfl, hg⟩ := he
    exact ⟨_, rfl, law_post (tb := 4) (by kernel_rfl) (by rw [hp3]; intro t ht; simp at ht; subst ht; exact ⟨by kernel_rfl, of_decide_eq_true (by kernel_rfl)⟩) rfl (by kernel_rfl) u4 rfl hW' hg⟩
theorem reelSpans_said : Rows.ReelSpansSaid :=
  OpenClaim.holds_of_wide 3 Tryd.f3 rfl rfl rfl rfl rfl rfl rfl ⟨rfl, rfl, rfl, rfl, rfl⟩ rfl rfl rfl rfl rfl (by kernel_rfl) Tryd.func3 (by kernel_rfl)
    (of_decide_eq_true (by kernel_rfl)) (by unfold Func.isWrapper; first | (rw [if_pos (by decide +kernel)]; kernel_rfl) | (rw [if_neg (by decide +kernel)]; exact ⟨rfl, rfl⟩))
    (fun os started H enc _ => lift3 os started H enc)
theorem reelSpans_holds : Rows.ReelSpansCardSaid :=
  Claim7.holds_tied_plain_at .later [] [.data, .data, .data] true (true, "260240c9f9b2b0a68dddd2ac576c0b91af5f090f4ccd06050aa86abd4530eaa4") false
    reelSpans_said (fun _ h => by cases h) (by kernel_rfl) (fun _ h => by cases h) reelSpans_row_tie rfl ⟨rfl, rfl⟩ (by kernel_rfl) rfl
    (fun f fn hf hfn => by
      obtain rfl : f = 3 := Option.some.inj ((show Tryd.prog.funcNamed "bijou/bijoulaw01.ReelSpans" = some 3 by kernel_rfl).symm.trans hf) |>.symm
      obtain rfl : fn = Tryd.f3 := (Option.some.inj (Tryd.func3.symm.trans hfn)).symm
      exact ⟨by kernel_rfl, fun j t ht => by
        rw [show Tryd.f3.params = #[24] by kernel_rfl] at ht
        have h3 : t = 24 := by
          rcases j with _ | j
          · simp at ht; exact ht.symm
          · simp at ht
        subst h3
        exact (show Tryd.prog.wantsStandIn 24 = false by kernel_rfl)⟩)
    (by kernel_rfl)
end Go.Proofs.YtbbpdlobjbpchaaDoor
end
