/-
  The law ReelMore answers true for every reel, every mark and every foot, and leaves its arguments as they were. Conditions: none but the given card's own (what the three listed tables hold is tied to the program's text).
  (The texts AxRowMore, one behind the other.)
-/
import Derived.Test.YtbbpdlobjbpchaaDoorRw
import Derived.Test.YtbbpdlobjbpchaaDoorP8
set_option linter.unusedSimpArgs false
set_option linter.unusedVariables false
set_option linter.unusedSectionVars false
section
namespace Go.Proofs.YtbbpdlobjbpchaaDoor
open Go Go.ChangeShapes Go.WideShapes Go.ChangeAt Go.WideMaps Go.WideElems Go.RowKit Go.Ab
set_option maxRecDepth 100000
theorem ty37 : tyOf Tryd.prog 7 37 = some markTy := by kernel_rfl
theorem u37 : ∃ fs, Tryd.prog.underlying 37 = some (.struct fs) := isSt_of (by kernel_rfl)
theorem mark_of {xs : List AV} (h : Cel markTy xs) : ∃ m : T.Mk, AV.agg xs = T.encM m := by
  obtain ⟨c1, d1, rfl, ⟨k, rfl, _⟩, c2, d2, rfl, ⟨fr, rfl, _⟩, c3, d3, rfl, ⟨to, rfl, _⟩, c4, d4, rfl, ⟨c5, d5, rfl, ⟨lo, rfl, _⟩, c6, d6, rfl, ⟨hi, rfl, _⟩, rfl⟩, rfl⟩ := h
  exact ⟨⟨k, fr, to, lo, hi⟩, rfl⟩
theorem ty3 : tyOf Tryd.prog 7 3 = some (.int .i64) := by kernel_rfl
theorem u3 : Tryd.prog.underlying 3 = some (.int .i64) := by kernel_rfl
theorem lift8 (os : Os) (started : os.Started) (H : Type) (enc : TypeId × Value → H) :
    ReturnsInHanded {} Tryd.checked os 8 .any (fun w args => (Rows.reelMoreSpec.pre enc Tryd.prog Tryd.f8 [] false w args ∧ laidMetH Tryd.prog laid3 w) ∧ sizedMet enc Tryd.prog Tryd.f8 (OpenSpec.ofChange Rows.reelMoreSpec) false w args)
      (Rows.reelMoreSpec.post enc Tryd.prog Tryd.f8 false true false false) := by
  refine returnsInHanded_of_change_and (C := Tryd.checked) (X := fun w _ => laidMetH Tryd.prog laid3 w) (fun _ _ _ hh h => h.of_heap hh) own started (by kernel_rfl) Tryd.func8
    (ChangeSpec.witness_shaped (enc := enc) (C := Tryd.checked) (os := os) (X := fun w _ => laidMetH Tryd.prog laid3 w) false (World.doorLaid Tryd.prog 400 os) #[.agg #[.int .i64 0, .slice Option.none 0 0], .agg #[.int .i64 0, .int .i64 0, .int .i64 0, .int .i64 0, .int .i64 0], .int .i64 0] 8 rfl (World.shaped_of_RefB (by kernel_rfl) (by kernel_rfl)) (by kernel_rfl) (by kernel_rfl) (by kernel_rfl) (door_met os _)) ?_
  intro W base args ds gs before hval0 hW _ _ hL _
  have hval : ∀ (j : Nat) t v, Tryd.f8.params[j]? = some t → args[j]? = some v → Value.okWide Tryd.prog W .any base t v := hval0
  have hW' := hW
  obtain ⟨p, q, hA0, hV, rfl, hfz, hnd⟩ := hW
  have hA : DataW.TrodAll enc Tryd.prog W 0 (fun _ => true) true Tryd.f8.params.toList args.toList ds p := hA0
  have hp3 : Tryd.f8.params.toList = [24, 37, 3] := by kernel_rfl
  have hp3' : Tryd.f8.params = #[24, 37, 3] := by kernel_rfl
  rw [hp3] at hA
  rw [hp3'] at hval
  obtain ⟨v0, v1, v2, d0, d1, d2, p0, p1, p2, h1, rfl, _, h00, h01, h02⟩ := trodAll_three hA
  subst h1
  obtain ⟨xs0, c0, g0⟩ := arg_struct ty24 u24 (hval 0 24 v0 rfl rfl) h00
  obtain ⟨x0, e0, _⟩ := reel_of c0
  rw [e0] at g0
  obtain ⟨xs1, c1, g1⟩ := arg_struct ty37 u37 (hval 1 37 v1 rfl rfl) h01
  obtain ⟨x1, e1⟩ := mark_of c1
  rw [e1] at g1
  obtain ⟨x2, _, g2⟩ := arg_int ty3 u3 (hval 2 3 v2 rfl rfl) h02
  refine (calls_bool T.C_ok (glob_of hL) (us := #[v0, v1, v2]) ⟨rfl, fun i a u ha hu => ?_⟩ (T.ReelMore_run x0 x1 x2)).mono fun e W' he => ?_
  · rcases i with _ | _ | _ | i
    · simp at ha hu; subst ha; subst hu; exact g0
    · simp at ha hu; subst ha; subst hu; exact g1
    · simp at ha hu; subst ha; subst hu; exact g2
    · simp at ha
  · obtain ⟨rfl, hg⟩ := he
    exact ⟨_, rfl, law_post (tb := 4) (by kernel_rfl) (by rw [hp3]; intro t ht; simp at ht; rcases ht with rfl | rfl | rfl <;> exact ⟨by kernel_rfl, of_decide_eq_true (by kernel_rfl)⟩) rfl (by kernel_rfl) u4 rfl hW' hg⟩
theorem reelMore_said : Rows.ReelMoreSaid :=
  OpenClaim.holds_of_wide 8 Tryd.f8 rfl rfl rfl rfl rfl rfl rfl ⟨rfl, rfl, rfl, rfl, rfl⟩ rfl rfl rfl rfl rfl (by kernel_rfl) Tryd.func8 (by kernel_rfl)
    (of_decide_eq_true (by kernel_rfl)) (by unfold Func.isWrapper; first | (rw [if_pos (by decide +kernel)]; kernel_rfl) | (rw [if_neg (by decide +kernel)]; exact ⟨rfl, rfl⟩))
    (fun os started H enc _ => lift8 os started H enc)
theorem reelMore_holds : Rows.ReelMoreCardSaid :=
  Claim7.holds_tied_plain_at .later [] [.data, .data, .data] true (true, "260240c9f9b2b0a68dddd2ac576c0b91af5f090f4ccd06050aa86abd4530eaa4") false
    reelMore_said (fun _ h => by cases h) (by kernel_rfl) (fun _ h => by cases h) reelMore_row_tie rfl ⟨rfl, rfl⟩ (by kernel_rfl) rfl
    (fun f fn hf hfn => by
      obtain rfl : f = 8 := Option.some.inj ((show Tryd.prog.funcNamed "bijou/bijoulaw01.ReelMore" = some 8 by kernel_rfl).symm.trans hf) |>.symm
      obtain rfl : fn = Tryd.f8 := (Option.some.inj (Tryd.func8.symm.trans hfn)).symm
      exact ⟨by kernel_rfl, fun j t ht => by
        rw [show Tryd.f8.params = #[24, 37, 3] by kernel_rfl] at ht
        have h3 : t = 24 ∨ t = 37 ∨ t = 3 := by
          rcases j with _ | _ | _ | j
          · simp at ht; exact Or.inl ht.symm
          · simp at ht; exact Or.inr (Or.inl ht.symm)
          · simp at ht; exact Or.inr (Or.inr (ht.symm))
          · simp at ht
        rcases h3 with rfl | rfl | rfl
        · exact (show Tryd.prog.wantsStandIn 24 = false by kernel_rfl)
        · exact (show Tryd.prog.wantsStandIn 37 = false by kernel_rfl)
        · exact (show Tryd.prog.wantsStandIn 3 = false by kernel_rfl)⟩)
    (by kernel_rfl)
end Go.Proofs.YtbbpdlobjbpchaaDoor
end
