/-
  The law ReelLacks answers true for all prints, and leaves them as they were. Conditions: none but the given card's own (what the three listed tables hold is tied to the program's text).
  (The texts AxRowLacks, one behind the other.)
-/
import Derived.Test.YtbbpdlobjbpchaaDoorRw
import Derived.Test.YtbbpdlobjbpchaaDoorP7
set_option linter.unusedSimpArgs false
set_option linter.unusedVariables false
set_option linter.unusedSectionVars false
section
namespace Go.Proofs.YtbbpdlobjbpchaaDoor
open Go Go.ChangeShapes Go.WideShapes Go.ChangeAt Go.WideMaps Go.WideElems Go.RowKit Go.Ab
set_option maxRecDepth 100000
theorem ty49 : tyOf Tryd.prog 7 49 = some (.slice reelTy) := by kernel_rfl
theorem u49 : Tryd.prog.underlying 49 = some (.slice 24) := by kernel_rfl
theorem lift6 (os : Os) (started : os.Started) (H : Type) (enc : TypeId × Value → H) :
    ReturnsInHanded {} Tryd.checked os 6 .any (fun w args => (Rows.reelLacksSpec.pre enc Tryd.prog Tryd.f6 [] false w args ∧ laidMetH Tryd.prog laid3 w) ∧ sizedMet enc Tryd.prog Tryd.f6 (OpenSpec.ofChange Rows.reelLacksSpec) false w args)
      (Rows.reelLacksSpec.post enc Tryd.prog Tryd.f6 false true false false) := by
  refine returnsInHanded_of_change_and (C := Tryd.checked) (X := fun w _ => laidMetH Tryd.prog laid3 w) (fun _ _ _ hh h => h.of_heap hh) own started (by kernel_rfl) Tryd.func6
    (ChangeSpec.witness_shaped (enc := enc) (C := Tryd.checked) (os := os) (X := fun w _ => laidMetH Tryd.prog laid3 w) false (World.doorLaid Tryd.prog 400 os) #[.slice Option.none 0 0] 8 rfl (World.shaped_of_RefB (by kernel_rfl) (by kernel_rfl)) (by kernel_rfl) (by kernel_rfl) (by kernel_rfl) (door_met os _)) ?_
  intro W base args ds gs before hval0 hW _ _ hL _
  have hval : ∀ (j : Nat) t v, Tryd.f6.params[j]? = some t → args[j]? = some v → Value.okWide Tryd.prog W .any base t v := hval0
  have hW' := hW
  obtain ⟨p, q, hA0, hV, rfl, hfz, hnd⟩ := hW
  have hA : DataW.TrodAll enc Tryd.prog W 0 (fun _ => true) true Tryd.f6.params.toList args.toList ds p := hA0
  have hp3 : Tryd.f6.params.toList = [49] := by kernel_rfl
  have hp3' : Tryd.f6.params = #[49] := by kernel_rfl
  rw [hp3] at hA
  rw [hp3'] at hval
  obtain ⟨v0, d0, h1, rfl, h00⟩ := trodAll_one hA
  subst h1
  obtain ⟨es0, c0, g0⟩ := arg_slice ty49 u49 (hval 0 49 v0 rfl rfl) h00
  obtain ⟨x0, rfl⟩ := reels_of c0
  refine (calls_bool T.C_ok (glob_of hL) (us := #[v0]) ⟨rfl, fun i a u ha hu => ?_⟩ (T.ReelLacks_run x0)).mono fun e W' he => ?_
  · rcases i with _ | i
    · simp at ha hu; subst ha; subst hu; exact g0
    · simp at ha
  · obtain ⟨rfl, hg⟩ := he
    exact ⟨_, rfl, law_post (tb := 4) (by kernel_rfl) (by rw [hp3]; intro t ht; simp at ht; subst ht; exact ⟨by kernel_rfl, of_decide_eq_true (by kernel_rfl)⟩) rfl (by kernel_rfl) u4 rfl hW' hg⟩
theorem reelLacks_said : Rows.ReelLacksSaid :=
  OpenClaim.holds_of_wide 6 Tryd.f6 rfl rfl rfl rfl rfl rfl rfl ⟨rfl, rfl, rfl, rfl, rfl⟩ rfl rfl rfl rfl rfl (by kernel_rfl) Tryd.func6 (by kernel_rfl)
    (of_decide_eq_true (by kernel_rfl)) (by unfold Func.isWrapper; first | (rw [if_pos (by decide +kernel)]; kernel_rfl) | (rw [if_neg (by decide +kernel)]; exact ⟨rfl, rfl⟩))
    (fun os started H enc _ => lift6 os started H enc)
theorem reelLacks_holds : Rows.ReelLacksCardSaid :=
  Claim7.holds_tied_plain_at .later [] [.data, .data, .data] true (true, "260240c9f9b2b0a68dddd2ac576c0b91af5f090f4ccd06050aa86abd4530eaa4") false
    reelLacks_said (fun _ h => by cases h) (by kernel_rfl) (fun _ h => by cases h) reelLacks_row_tie rfl ⟨rfl, rfl⟩ (by kernel_rfl) rfl
    (fun f fn hf hfn => by
      obtain rfl : f = 6 := Option.some.inj ((show Tryd.prog.funcNamed "bijou/bijoulaw01.ReelLacks" = some 6 by kernel_rfl).symm.trans hf) |>.symm
      obtain rfl : fn = Tryd.f6 := (Option.some.inj (Tryd.func6.symm.trans hfn)).symm
      exact ⟨by kernel_rfl, fun j t ht => by
        rw [show Tryd.f6.params = #[49] by kernel_rfl] at ht
        have h3 : t = 49 := by
          rcases j with _ | j
          · simp at ht; exact ht.symm
          · simp at ht
        subst h3
        exact (show Tryd.prog.wantsStandIn 49 = false by kernel_rfl)⟩)
    (by kernel_rfl)
end Go.Proofs.YtbbpdlobjbpchaaDoor
end
