/-
  A part of the proofs over this seat.
  (The texts AxRow AxRow2 AxRowP, one behind the other.)
-/
import Derived.Test.YtbbpdlobjbpchaaDoorT2
import Derived.Test.YtbbpdlobjbpchaaDoorA3
import Derived.Test.YtbbpdlobjbpchaaDoorRows
import Derived.ProofKit
import Derived.LaidMore
import Derived.OpenShut
import Derived.Stop.Joined
import Derived.Test.YtbbpdlobjbpchaaDoorP2
import Derived.Test.YtbbpdlobjbpchaaDoorCards
import Derived.Test.YtbbpdlobjbpchaaDoorTie
set_option linter.unusedSimpArgs false
set_option linter.unusedVariables false
set_option linter.unusedSectionVars false
section
namespace Go.Proofs.YtbbpdlobjbpchaaDoor
open Go.ChangeShapes Go.WideShapes Go.ChangeAt Go.WideMaps Go.WideElems Go.RowKit Go.Ab

theorem own : ownKnob Tryd.prog.godebug = none := by kernel_rfl
def laid3 : List (String × DataW Unit) := [("math/bits.deBruijn32tab", Rows.laid_math_bits_deBruijn32tab), ("math/bits.deBruijn64tab", Rows.laid_math_bits_deBruijn64tab), ("bijou/reel.withFoot", Rows.laid_bijou_reel_withFoot)]
theorem g32 : Tryd.prog.globalNamed "math/bits.deBruijn32tab" = some 1 := by kernel_rfl
theorem g64 : Tryd.prog.globalNamed "math/bits.deBruijn64tab" = some 0 := by kernel_rfl
theorem gwf : Tryd.prog.globalNamed "bijou/reel.withFoot" = some 2 := by kernel_rfl
theorem t32 : (Tryd.prog.globals[1]?).map (·.type) = some 130 := by kernel_rfl
theorem t64 : (Tryd.prog.globals[0]?).map (·.type) = some 129 := by kernel_rfl
theorem twf : (Tryd.prog.globals[2]?).map (·.type) = some 132 := by kernel_rfl
theorem u129 : Tryd.prog.underlying 129 = some (.array 64 5) := by kernel_rfl
theorem u130 : Tryd.prog.underlying 130 = some (.array 32 5) := by kernel_rfl
theorem u132 : Tryd.prog.underlying 132 = some (.array 6 117) := by kernel_rfl
theorem u5 : Tryd.prog.underlying 5 = some (.int .u8) := by kernel_rfl
theorem u117 : Tryd.prog.underlying 117 = some (.int .u64) := by kernel_rfl
theorem c5 : Tryd.prog.cellsOf 5 = 1 := by kernel_rfl
theorem c117 : Tryd.prog.cellsOf 117 = 1 := by kernel_rfl

theorem glob_of {W : World} (h : laidMetH Tryd.prog laid3 W) : ∀ g e, T.C.G g = some e → Ab.R T.C.P N0 (Z.first W) (.pv e 0) (.pointer (some ⟨g, 0, none⟩)) := by
  rw [MakeChecks.laidMetH_plain _ _ _ (by kernel_rfl)] at h
  obtain ⟨ps, ⟨g0, s0, cs0, f0, p0, q0, hg0, ht0, hv0, hd0, ⟨g1, s1, cs1, f1, p1, q1, hg1, ht1, hv1, hd1, ⟨g2, s2, cs2, f2, p2, q2, hg2, ht2, hv2, hd2, _, _⟩, _⟩, _⟩, _, _⟩ := h
  obtain rfl := Option.some.inj (g32.symm.trans hg0)
  obtain rfl := Option.some.inj (g64.symm.trans hg1)
  obtain rfl := Option.some.inj (gwf.symm.trans hg2)
  obtain rfl := Option.some.inj (t32.symm.trans ht0)
  obtain rfl := Option.some.inj (t64.symm.trans ht1)
  obtain rfl := Option.some.inj (twf.symm.trans ht2)
  have r0 := table_R (ns := [0, 1, 28, 2, 29, 14, 24, 3, 30, 22, 20, 15, 25, 17, 4, 8, 31, 27, 13, 23, 21, 19, 16, 7, 26, 12, 18, 6, 11, 5, 10, 9]) u130 u5 c5 g32 hv0 hd0
  have r1 := table_R (ns := [0, 1, 56, 2, 57, 49, 28, 3, 61, 58, 42, 50, 38, 29, 17, 4, 62, 47, 59, 36, 45, 43, 51, 22, 53, 39, 33, 30, 24, 18, 12, 5, 63, 55, 48, 27, 60, 41, 37, 16, 46, 35, 44, 21, 52, 32, 23, 11, 54, 26, 40, 15, 34, 20, 31, 10, 25, 14, 19, 9, 13, 8, 7, 6]) u129 u5 c5 g64 hv1 hd1
  have r2 := table_R (ns := [12297829382473034410, 14757395258967641292, 17361641481138401520, 18374966859414961920, 18446462603027742720, 18446744069414584320]) u132 u117 c117 gwf hv2 hd2
  intro g e hge
  replace hge : T.G g = some e := hge
  unfold T.G at hge
  split at hge
  · cases hge; exact r1
  · cases hge; exact r0
  · cases hge; exact r2
  · cases hge
end Go.Proofs.YtbbpdlobjbpchaaDoor
end

section
namespace Go.Proofs.YtbbpdlobjbpchaaDoor
set_option maxRecDepth 100000
open Go.ChangeShapes Go.WideShapes Go.ChangeAt Go.WideMaps Go.WideElems Go.RowKit Go.Ab
def spanTy : Ty := .struct [.int .i64, .int .i64]
def markTy : Ty := .struct [.int .i64, .int .i64, .int .i64, spanTy]
def reelTy : Ty := .struct [.int .i64, .slice markTy]
theorem ty24 : tyOf Tryd.prog 6 24 = some reelTy := by kernel_rfl
noncomputable def isSt (t : TypeId) : Bool := match Tryd.prog.underlying t with | some (.struct _) => true | _ => false
set_option maxRecDepth 100000 in
theorem isSt_of {t : TypeId} (h : isSt t = true) : ∃ fs, Tryd.prog.underlying t = some (.struct fs) := by
  unfold isSt at h
  split at h
  · rename_i fs hfs; exact ⟨fs, hfs⟩
  · cases h
theorem u24 : ∃ fs, Tryd.prog.underlying 24 = some (.struct fs) := isSt_of (by kernel_rfl)
theorem u4 : Tryd.prog.underlying 4 = some .bool := by kernel_rfl

theorem door_met (os : Os) (args : Array Value) : laidMetH Tryd.prog laid3 ((World.doorLaid Tryd.prog 400 os).forCall (fun _ _ => 0) ⟨#[], args, []⟩).memory :=
  laidMetH_of_parts3 (fuel := 8) (laidMet_of_run' 8 (by kernel_rfl) (by kernel_rfl)) (by kernel_rfl) (by kernel_rfl)

/-- An argument that is a struct. -/
theorem arg_struct {H : Type} {enc : TypeId × Value → H} {W : World} {base : Nat} {t : TypeId} {k : Nat} {ts : List Ty} {v : Value} {d : DataW H} {p : List MemPlace} (hty : tyOf Tryd.prog k t = some (.struct ts)) (hu : ∃ fs, Tryd.prog.underlying t = some (.struct fs))
    (hval : Value.okWide Tryd.prog W .any base t v) (h : DataW.Trod enc Tryd.prog W 0 (fun _ => true) true t v d p) : ∃ xs, Cel (.struct ts) xs ∧ Ab.R Tryd.prog N0 (Z.first W) (.agg xs) v := by
  obtain ⟨fs, hu⟩ := hu
  obtain ⟨cs, rfl, _⟩ : ∃ cs, v = .agg cs ∧ True := by
    unfold Value.okWide at hval
    rw [hu] at hval
    obtain ⟨cs, h1, _⟩ := hval
    exact ⟨cs, h1, trivial⟩
  obtain ⟨fuel, h⟩ := h
  obtain ⟨xs, h1, h2⟩ := trod_cel fuel k t _ _ _ h hty
  exact ⟨xs, h1, R_agg.2 ⟨cs, rfl, h2.mono fun _ _ h => h.1⟩⟩

set_option maxRecDepth 100000 in
theorem lifted3 (hrun : ∀ xs, Cel reelTy xs → RV T.C.ft 3 [.agg xs] (.bool true)) (os : Os) (started : os.Started) (H : Type) (enc : TypeId × Value → H) :
    ReturnsInHanded {} Tryd.checked os 3 .any (fun w args => (Rows.reelSpansSpec.pre enc Tryd.prog Tryd.f3 [] false w args ∧ laidMetH Tryd.prog laid3 w) ∧ sizedMet enc Tryd.prog Tryd.f3 (OpenSpec.ofChange Rows.reelSpansSpec) false w args)
      (Rows.reelSpansSpec.post enc Tryd.prog Tryd.f3 false true false false) := by
  refine returnsInHanded_of_change_and (C := Tryd.checked) (X := fun w _ => laidMetH Tryd.prog laid3 w) (fun _ _ _ hh h => h.of_heap hh) own started (by kernel_rfl) Tryd.func3
    (ChangeSpec.witness_shaped (enc := enc) (C := Tryd.checked) (os := os) (X := fun w _ => laidMetH Tryd.prog laid3 w) false (World.doorLaid Tryd.prog 400 os) #[.agg #[.int .i64 0, .slice none 0 0]] 8 rfl (World.shaped_of_RefB (by kernel_rfl) (by kernel_rfl)) (by kernel_rfl) (by kernel_rfl) (by kernel_rfl) (door_met os _)) ?_
  intro W base args ds gs before hval0 hW _ _ hL _
  have hval : ∀ (j : Nat) t v, Tryd.f3.params[j]? = some t → args[j]? = some v → Value.okWide Tryd.prog W .any base t v := hval0
  have hW' := hW
  obtain ⟨p, q, hA0, hV, rfl, hfz, hnd⟩ := hW
  have hA : DataW.TrodAll enc Tryd.prog W 0 (fun _ => true) true Tryd.f3.params.toList args.toList ds p := hA0
  have hp3 : Tryd.f3.params.toList = [24] := by kernel_rfl
  have hp3' : Tryd.f3.params = #[24] := by kernel_rfl
  rw [hp3] at hA
  rw [hp3'] at hval
  obtain ⟨v0, d0, h1, rfl, h0⟩ := trodAll_one hA
  subst h1
  obtain ⟨xs, h2, h3⟩ := arg_struct ty24 u24 (hval 0 24 v0 rfl rfl) h0
  refine (calls_bool T.C_ok (glob_of hL) (us := #[v0]) ⟨rfl, fun i a u ha hu => ?_⟩ (hrun xs h2)).mono fun e W' he => ?_
  · cases i with
    | zero => simp at ha hu; subst ha; subst hu; exact h3
    | succ i => simp at ha
  · obtain ⟨rfl, hg⟩ := he
    exact ⟨_, rfl, law_post (tb := 4) (by kernel_rfl) (by rw [hp3]; intro t ht; simp at ht; subst ht; exact ⟨by kernel_rfl, of_decide_eq_true (by kernel_rfl)⟩) rfl (by kernel_rfl) u4 rfl hW' hg⟩
end Go.Proofs.YtbbpdlobjbpchaaDoor
end

section
namespace Go.Proofs.YtbbpdlobjbpchaaDoor
open Go Go.ChangeShapes Go.WideShapes Go.ChangeAt Go.WideMaps Go.WideElems Go.RowKit Go.Ab
set_option maxRecDepth 100000
/-- An argument that is a slice. -/
theorem arg_slice {H : Type} {enc : TypeId × Value → H} {W : World} {base : Nat} {t e : TypeId} {k : Nat} {ty : Ty} {v : Value} {d : DataW H} {p : List MemPlace} (hty : tyOf Tryd.prog k t = some (.slice ty)) (hu : Tryd.prog.underlying t = some (.slice e))
    (hval : Value.okWide Tryd.prog W .any base t v) (h : DataW.Trod enc Tryd.prog W 0 (fun _ => true) true t v d p) : ∃ es, Cel (.slice ty) [.sl es .unk] ∧ Ab.R Tryd.prog N0 (Z.first W) (.sl es .unk) v := by
  have hv : v.cells.toList = [v] := by
    unfold Value.okWide at hval
    rw [hu] at hval
    simp only at hval
    unfold Cell.okWide at hval
    rw [hu] at hval
    cases v <;> first | rfl | (simp [Cell.ok, hu] at hval)
  obtain ⟨fuel, h⟩ := h
  obtain ⟨xs, h1, h2⟩ := trod_cel fuel k t _ _ _ h hty
  rw [hv] at h2
  obtain ⟨es, rfl, h3, h4⟩ := h1
  exact ⟨es, ⟨es, rfl, h3, h4⟩, (h2.2 0 _ _ rfl rfl).1⟩
/-- An argument that is an integer. -/
theorem arg_int {H : Type} {enc : TypeId × Value → H} {W : World} {base : Nat} {t : TypeId} {k : Nat} {q : IntKind} {v : Value} {d : DataW H} {p : List MemPlace} (hty : tyOf Tryd.prog k t = some (.int q)) (hu : Tryd.prog.underlying t = some (.int q))
    (hval : Value.okWide Tryd.prog W .any base t v) (h : DataW.Trod enc Tryd.prog W 0 (fun _ => true) true t v d p) : ∃ n, (Lit.int q n).wf = true ∧ Ab.R Tryd.prog N0 (Z.first W) (.int q n) v := by
  have hv : v.cells.toList = [v] := by
    unfold Value.okWide at hval
    rw [hu] at hval
    simp only at hval
    unfold Cell.okWide at hval
    rw [hu] at hval
    cases v <;> first | rfl | (simp [Cell.ok, hu] at hval)
  obtain ⟨fuel, h⟩ := h
  obtain ⟨xs, h1, h2⟩ := trod_cel fuel k t _ _ _ h hty
  rw [hv] at h2
  obtain ⟨n, rfl, h3⟩ := h1
  exact ⟨n, h3, (h2.2 0 _ _ rfl rfl).1⟩
/-- What a reel reads as. -/
theorem reel_of {xs : List AV} (h : Cel reelTy xs) : ∃ r : T.Rl, AV.agg xs = T.encR r ∧ r.marks.length ≤ maxLen := by
  obtain ⟨a1, b1, rfl, ⟨f, rfl, _⟩, a2, b2, rfl, ⟨es, rfl, hlen, hes⟩, rfl⟩ := h
  have : ∀ es : List AV, (∀ e ∈ es, ∃ cs, Cel markTy cs ∧ e = mkA markTy cs) → ∃ l : List T.Mk, es = l.map T.encM := by
    intro es
    induction es with
    | nil => exact fun _ => ⟨[], rfl⟩
    | cons e es ih =>
      intro h
      obtain ⟨l, rfl⟩ := ih fun e he => h e (List.mem_cons_of_mem _ he)
      obtain ⟨cs, hc, rfl⟩ := h e (by simp)
      obtain ⟨c1, d1, rfl, ⟨k, rfl, _⟩, c2, d2, rfl, ⟨fr, rfl, _⟩, c3, d3, rfl, ⟨to, rfl, _⟩, c4, d4, rfl, ⟨c5, d5, rfl, ⟨lo, rfl, _⟩, c6, d6, rfl, ⟨hi, rfl, _⟩, rfl⟩, rfl⟩ := hc
      exact ⟨⟨k, fr, to, lo, hi⟩ :: l, rfl⟩
  obtain ⟨l, rfl⟩ := this es hes
  exact ⟨⟨f, l⟩, rfl, by simpa using hlen⟩
theorem reels_of {es : List AV} (h : Cel (.slice reelTy) [.sl es .unk]) : ∃ l : List T.Rl, es = l.map T.encR := by
  obtain ⟨es', h0, hlen, hes⟩ := h
  cases h0
  clear hlen
  induction es with
  | nil => exact ⟨[], rfl⟩
  | cons e es ih =>
    obtain ⟨l, rfl⟩ := ih fun e he => hes e (List.mem_cons_of_mem _ he)
    obtain ⟨cs, hc, rfl⟩ := hes e (by simp)
    obtain ⟨r, hr, _⟩ := reel_of hc
    exact ⟨r :: l, by simp only [List.map_cons]; exact congrArg (· :: _) hr⟩
end Go.Proofs.YtbbpdlobjbpchaaDoor
end
