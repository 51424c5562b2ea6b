/-
  The law ReelTrue answers true for every reel and all blocks, and leaves its arguments as they were. Conditions: none but the given card's own (what the three listed tables hold is tied to the program's text).
  (The texts AxRowT, one behind the other.)
-/
import Derived.Test.YtbbpdlobjbpchaaDoorRw
import Derived.Test.YtbbpdlobjbpchaaDoorP3
set_option linter.unusedSimpArgs false
set_option linter.unusedVariables false
set_option linter.unusedSectionVars false
section
namespace Go.Proofs.YtbbpdlobjbpchaaDoor
open Go Go.ChangeShapes Go.WideShapes Go.ChangeAt Go.WideMaps Go.WideElems Go.RowKit Go.Ab
set_option maxRecDepth 100000
theorem ty53 : tyOf Tryd.prog 7 53 = some (.slice spanTy) := by kernel_rfl
theorem u53 : ∃ e, Tryd.prog.underlying 53 = some (.slice e) := ⟨97, by kernel_rfl⟩
theorem blocks_of {es : List AV} (h : Cel (.slice spanTy) [.sl es .unk]) : ∃ l : List T.Bk, es = l.map T.encBk := by
  obtain ⟨es', h0, hlen, hes⟩ := h
  cases h0
  clear hlen
  induction es with
  | nil => exact ⟨[], rfl⟩
  | cons e es ih =>
    obtain ⟨l, rfl⟩ := ih fun e he => hes e (List.mem_cons_of_mem _ he)
    obtain ⟨cs, hc, rfl⟩ := hes e (by simp)
    obtain ⟨c1, d1, rfl, ⟨f, rfl, _⟩, c2, d2, rfl, ⟨t, rfl, _⟩, rfl⟩ := hc
    exact ⟨⟨f, t⟩ :: l, rfl⟩
theorem lifted7 (os : Os) (started : os.Started) (H : Type) (enc : TypeId × Value → H) :
    ReturnsInHanded {} Tryd.checked os 7 .any (fun w args => (Rows.reelTrueSpec.pre enc Tryd.prog Tryd.f7 [] false w args ∧ laidMetH Tryd.prog laid3 w) ∧ sizedMet enc Tryd.prog Tryd.f7 (OpenSpec.ofChange Rows.reelTrueSpec) false w args)
      (Rows.reelTrueSpec.post enc Tryd.prog Tryd.f7 false true false false) := by
  refine returnsInHanded_of_change_and (C := Tryd.checked) (X := fun w _ => laidMetH Tryd.prog laid3 w) (fun _ _ _ hh h => h.of_heap hh) own started (by kernel_rfl) Tryd.func7
    (ChangeSpec.witness_shaped (enc := enc) (C := Tryd.checked) (os := os) (X := fun w _ => laidMetH Tryd.prog laid3 w) false (World.doorLaid Tryd.prog 400 os) #[.agg #[.int .i64 0, .slice Option.none 0 0], .slice Option.none 0 0] 8 rfl (World.shaped_of_RefB (by kernel_rfl) (by kernel_rfl)) (by kernel_rfl) (by kernel_rfl) (by kernel_rfl) (door_met os _)) ?_
  intro W base args ds gs before hval0 hW _ _ hL _
  have hval : ∀ (j : Nat) t v, Tryd.f7.params[j]? = some t → args[j]? = some v → Value.okWide Tryd.prog W .any base t v := hval0
  have hW' := hW
  obtain ⟨p, q, hA0, hV, rfl, hfz, hnd⟩ := hW
  have hA : DataW.TrodAll enc Tryd.prog W 0 (fun _ => true) true Tryd.f7.params.toList args.toList ds p := hA0
  have hp3 : Tryd.f7.params.toList = [24, 53] := by kernel_rfl
  have hp3' : Tryd.f7.params = #[24, 53] := by kernel_rfl
  rw [hp3] at hA
  rw [hp3'] at hval
  obtain ⟨v0, v1, d0, d1, p0, p1, h1, rfl, _, h00, h01⟩ := trodAll_two hA
  subst h1
  obtain ⟨xs, h2, h3⟩ := arg_struct ty24 u24 (hval 0 24 v0 rfl rfl) h00
  obtain ⟨e53, hu53⟩ := u53
  obtain ⟨es, h4, h5⟩ := arg_slice ty53 hu53 (hval 1 53 v1 rfl rfl) h01
  obtain ⟨r, hr, _⟩ := reel_of h2
  obtain ⟨l, rfl⟩ := blocks_of h4
  rw [hr] at h3
  refine (calls_bool T.C_ok (glob_of hL) (us := #[v0, v1]) ⟨rfl, fun i a u ha hu => ?_⟩ (T.ReelTrue_run r l)).mono fun e W' he => ?_
  · rcases i with _ | _ | i
    · simp at ha hu; subst ha; subst hu; exact h3
    · simp at ha hu; subst ha; subst hu; exact h5
    · simp at ha
  · obtain ⟨rfl, hg⟩ := he
    exact ⟨_, rfl, law_post (tb := 4) (by kernel_rfl) (by rw [hp3]; intro t ht; simp at ht; rcases ht with rfl | rfl <;> exact ⟨by kernel_rfl, of_decide_eq_true (by kernel_rfl)⟩) rfl (by kernel_rfl) u4 rfl hW' hg⟩
theorem reelTrue_said : Rows.ReelTrueSaid :=
  OpenClaim.holds_of_wide 7 Tryd.f7 rfl rfl rfl rfl rfl rfl rfl ⟨rfl, rfl, rfl, rfl, rfl⟩ rfl rfl rfl rfl rfl (by kernel_rfl) Tryd.func7 (by kernel_rfl)
    (of_decide_eq_true (by kernel_rfl)) (by unfold Func.isWrapper; first | (rw [if_pos (by decide +kernel)]; kernel_rfl) | (rw [if_neg (by decide +kernel)]; exact ⟨rfl, rfl⟩))
    (fun os started H enc _ => lifted7 os started H enc)
theorem reelTrue_holds : Rows.ReelTrueCardSaid :=
  Claim7.holds_tied_plain_at .later [] [.data, .data, .data] true (true, "260240c9f9b2b0a68dddd2ac576c0b91af5f090f4ccd06050aa86abd4530eaa4") false
    reelTrue_said (fun _ h => by cases h) (by kernel_rfl) (fun _ h => by cases h) reelTrue_row_tie rfl ⟨rfl, rfl⟩ (by kernel_rfl) rfl
    (fun f fn hf hfn => by
      obtain rfl : f = 7 := Option.some.inj ((show Tryd.prog.funcNamed "bijou/bijoulaw01.ReelTrue" = some 7 by kernel_rfl).symm.trans hf) |>.symm
      obtain rfl : fn = Tryd.f7 := (Option.some.inj (Tryd.func7.symm.trans hfn)).symm
      exact ⟨by kernel_rfl, fun j t ht => by
        rw [show Tryd.f7.params = #[24, 53] by kernel_rfl] at ht
        have h3 : t = 24 ∨ t = 53 := by
          rcases j with _ | _ | j
          · simp at ht; exact Or.inl ht.symm
          · simp at ht; exact Or.inr ht.symm
          · simp at ht
        rcases h3 with rfl | rfl
        · exact (show Tryd.prog.wantsStandIn 24 = false by kernel_rfl)
        · exact (show Tryd.prog.wantsStandIn 53 = false by kernel_rfl)⟩)
    (by kernel_rfl)
end Go.Proofs.YtbbpdlobjbpchaaDoor
end
