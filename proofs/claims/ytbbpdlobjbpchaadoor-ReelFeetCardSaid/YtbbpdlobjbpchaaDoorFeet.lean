/-
  The law ReelFeet answers true for every reel and all feet that are asked for, and leaves its arguments as they were. Conditions: none but the given card's own (what the three listed tables hold is tied to the program's text).
  (The texts AxRowFeet, one behind the other.)
-/
import Derived.Test.YtbbpdlobjbpchaaDoorRw
import Derived.Test.YtbbpdlobjbpchaaDoorP6
set_option linter.unusedSimpArgs false
set_option linter.unusedVariables false
set_option linter.unusedSectionVars false
section
namespace Go.Proofs.YtbbpdlobjbpchaaDoor
open Go Go.ChangeShapes Go.WideShapes Go.ChangeAt Go.WideMaps Go.WideElems Go.RowKit Go.Ab
set_option maxRecDepth 100000
theorem ty39 : tyOf Tryd.prog 7 39 = some (.struct [.int .i64, .int .i64, .int .i64]) := by kernel_rfl
theorem u39 : ∃ fs, Tryd.prog.underlying 39 = some (.struct fs) := isSt_of (by kernel_rfl)
theorem asked_of {xs : List AV} (h : Cel (.struct [.int .i64, .int .i64, .int .i64]) xs) : ∃ a b c : Int, AV.agg xs = .agg [.int .i64 a, .int .i64 b, .int .i64 c] := by
  obtain ⟨c1, d1, rfl, ⟨a, rfl, _⟩, c2, d2, rfl, ⟨b, rfl, _⟩, c3, d3, rfl, ⟨c, rfl, _⟩, rfl⟩ := h
  exact ⟨a, b, c, rfl⟩
theorem lift4 (os : Os) (started : os.Started) (H : Type) (enc : TypeId × Value → H) :
    ReturnsInHanded {} Tryd.checked os 4 .any (fun w args => (Rows.reelFeetSpec.pre enc Tryd.prog Tryd.f4 [] false w args ∧ laidMetH Tryd.prog laid3 w) ∧ sizedMet enc Tryd.prog Tryd.f4 (OpenSpec.ofChange Rows.reelFeetSpec) false w args)
      (Rows.reelFeetSpec.post enc Tryd.prog Tryd.f4 false true false false) := by
  refine returnsInHanded_of_change_and (C := Tryd.checked) (X := fun w _ => laidMetH Tryd.prog laid3 w) (fun _ _ _ hh h => h.of_heap hh) own started (by kernel_rfl) Tryd.func4
    (ChangeSpec.witness_shaped (enc := enc) (C := Tryd.checked) (os := os) (X := fun w _ => laidMetH Tryd.prog laid3 w) false (World.doorLaid Tryd.prog 400 os) #[.agg #[.int .i64 0, .slice Option.none 0 0], .agg #[.int .i64 0, .int .i64 0, .int .i64 0]] 8 rfl (World.shaped_of_RefB (by kernel_rfl) (by kernel_rfl)) (by kernel_rfl) (by kernel_rfl) (by kernel_rfl) (door_met os _)) ?_
  intro W base args ds gs before hval0 hW _ _ hL _
  have hval : ∀ (j : Nat) t v, Tryd.f4.params[j]? = some t → args[j]? = some v → Value.okWide Tryd.prog W .any base t v := hval0
  have hW' := hW
  obtain ⟨p, q, hA0, hV, rfl, hfz, hnd⟩ := hW
  have hA : DataW.TrodAll enc Tryd.prog W 0 (fun _ => true) true Tryd.f4.params.toList args.toList ds p := hA0
  have hp3 : Tryd.f4.params.toList = [24, 39] := by kernel_rfl
  have hp3' : Tryd.f4.params = #[24, 39] := by kernel_rfl
  rw [hp3] at hA
  rw [hp3'] at hval
  obtain ⟨v0, v1, d0, d1, p0, p1, h1, rfl, _, h00, h01⟩ := trodAll_two hA
  subst h1
  obtain ⟨xs0, c0, g0⟩ := arg_struct ty24 u24 (hval 0 24 v0 rfl rfl) h00
  obtain ⟨x0, e0, _⟩ := reel_of c0
  rw [e0] at g0
  obtain ⟨xs1, c1, g1⟩ := arg_struct ty39 u39 (hval 1 39 v1 rfl rfl) h01
  obtain ⟨x1, y1, z1, e1⟩ := asked_of c1
  rw [e1] at g1
  refine (calls_bool T.C_ok (glob_of hL) (us := #[v0, v1]) ⟨rfl, fun i a u ha hu => ?_⟩ (T.ReelFeet_run x0 x1 y1 z1)).mono fun e W' he => ?_
  · rcases i with _ | _ | i
    · simp at ha hu; subst ha; subst hu; exact g0
    · simp at ha hu; subst ha; subst hu; exact g1
    · simp at ha
  · obtain ⟨rfl, hg⟩ := he
    exact ⟨_, rfl, law_post (tb := 4) (by kernel_rfl) (by rw [hp3]; intro t ht; simp at ht; rcases ht with rfl | rfl <;> exact ⟨by kernel_rfl, of_decide_eq_true (by kernel_rfl)⟩) rfl (by kernel_rfl) u4 rfl hW' hg⟩
theorem reelFeet_said : Rows.ReelFeetSaid :=
  OpenClaim.holds_of_wide 4 Tryd.f4 rfl rfl rfl rfl rfl rfl rfl ⟨rfl, rfl, rfl, rfl, rfl⟩ rfl rfl rfl rfl rfl (by kernel_rfl) Tryd.func4 (by kernel_rfl)
    (of_decide_eq_true (by kernel_rfl)) (by unfold Func.isWrapper; first | (rw [if_pos (by decide +kernel)]; kernel_rfl) | (rw [if_neg (by decide +kernel)]; exact ⟨rfl, rfl⟩))
    (fun os started H enc _ => lift4 os started H enc)
theorem reelFeet_holds : Rows.ReelFeetCardSaid :=
  Claim7.holds_tied_plain_at .later [] [.data, .data, .data] true (true, "260240c9f9b2b0a68dddd2ac576c0b91af5f090f4ccd06050aa86abd4530eaa4") false
    reelFeet_said (fun _ h => by cases h) (by kernel_rfl) (fun _ h => by cases h) reelFeet_row_tie rfl ⟨rfl, rfl⟩ (by kernel_rfl) rfl
    (fun f fn hf hfn => by
      obtain rfl : f = 4 := Option.some.inj ((show Tryd.prog.funcNamed "bijou/bijoulaw01.ReelFeet" = some 4 by kernel_rfl).symm.trans hf) |>.symm
      obtain rfl : fn = Tryd.f4 := (Option.some.inj (Tryd.func4.symm.trans hfn)).symm
      exact ⟨by kernel_rfl, fun j t ht => by
        rw [show Tryd.f4.params = #[24, 39] by kernel_rfl] at ht
        have h3 : t = 24 ∨ t = 39 := by
          rcases j with _ | _ | j
          · simp at ht; exact Or.inl ht.symm
          · simp at ht; exact Or.inr (ht.symm)
          · simp at ht
        rcases h3 with rfl | rfl
        · exact (show Tryd.prog.wantsStandIn 24 = false by kernel_rfl)
        · exact (show Tryd.prog.wantsStandIn 39 = false by kernel_rfl)⟩)
    (by kernel_rfl)
end Go.Proofs.YtbbpdlobjbpchaaDoor
end
