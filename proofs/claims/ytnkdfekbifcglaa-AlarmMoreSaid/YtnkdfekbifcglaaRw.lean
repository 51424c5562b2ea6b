/-
  A part of the proofs over this seat.
  (The texts KrRow, one behind the other.)
-/
import Derived.Test.YtnkdfekbifcglaaT2
import Derived.Test.YtnkdfekbifcglaaP7
import Derived.Test.YtnkdfekbifcglaaA4
import Derived.Test.YtnkdfekbifcglaaRows
import Derived.ProofKit
import Derived.SizedLaws
set_option linter.unusedSimpArgs false
set_option linter.unusedVariables false
set_option linter.unusedSectionVars false
section
namespace Go.Proofs.Ytnkdfekbifcglaa
open Go Go.ChangeShapes Go.WideShapes Go.ChangeAt Go.WideMaps Go.WideElems Go.RowKit Go.Ab
set_option maxRecDepth 100000
theorem own : ownKnob Try.prog.godebug = none := by kernel_rfl
theorem u4 : Try.prog.underlying 4 = some .bool := by kernel_rfl
theorem glob_of {W : World} : ∀ g e, T.C.G g = some e → Ab.R T.C.P N0 (Z.first W) (.pv e 0) (.pointer (some ⟨g, 0, none⟩)) := by
  intro g e hge
  cases hge
noncomputable def isSt (t : TypeId) : Bool := match Try.prog.underlying t with | some (.struct _) => true | _ => false
theorem isSt_of {t : TypeId} (h : isSt t = true) : ∃ fs, Try.prog.underlying t = some (.struct fs) := by
  unfold isSt at h
  split at h
  · rename_i fs hfs; exact ⟨fs, hfs⟩
  · cases h
/-- An argument that is a struct. -/
theorem arg_struct {H : Type} {enc : TypeId × Value → H} {W : World} {base : Nat} {t : TypeId} {k : Nat} {ts : List Ty} {v : Value} {d : DataW H} {p : List MemPlace} (hty : tyOf Try.prog k t = some (.struct ts)) (hu : ∃ fs, Try.prog.underlying t = some (.struct fs))
    (hval : Value.okWide Try.prog W .any base t v) (h : DataW.Trod enc Try.prog W 0 (fun _ => true) true t v d p) : ∃ xs, Cel (.struct ts) xs ∧ Ab.R Try.prog N0 (Z.first W) (.agg xs) v := by
  obtain ⟨fs, hu⟩ := hu
  obtain ⟨cs, rfl, _⟩ : ∃ cs, v = .agg cs ∧ True := by
    unfold Value.okWide at hval
    rw [hu] at hval
    obtain ⟨cs, h1, _⟩ := hval
    exact ⟨cs, h1, trivial⟩
  obtain ⟨fuel, h⟩ := h
  obtain ⟨xs, h1, h2⟩ := trod_cel fuel k t _ _ _ h hty
  exact ⟨xs, h1, R_agg.2 ⟨cs, rfl, h2.mono fun _ _ h => h.1⟩⟩
/-- An argument that is a slice. -/
theorem arg_slice {H : Type} {enc : TypeId × Value → H} {W : World} {base : Nat} {t e : TypeId} {k : Nat} {ty : Ty} {v : Value} {d : DataW H} {p : List MemPlace} (hty : tyOf Try.prog k t = some (.slice ty)) (hu : Try.prog.underlying t = some (.slice e))
    (hval : Value.okWide Try.prog W .any base t v) (h : DataW.Trod enc Try.prog W 0 (fun _ => true) true t v d p) : ∃ es, Cel (.slice ty) [.sl es .unk] ∧ Ab.R Try.prog N0 (Z.first W) (.sl es .unk) v := by
  have hv : v.cells.toList = [v] := by
    unfold Value.okWide at hval
    rw [hu] at hval
    simp only at hval
    unfold Cell.okWide at hval
    rw [hu] at hval
    cases v <;> first | rfl | (simp [Cell.ok, hu] at hval)
  obtain ⟨fuel, h⟩ := h
  obtain ⟨xs, h1, h2⟩ := trod_cel fuel k t _ _ _ h hty
  rw [hv] at h2
  obtain ⟨es, rfl, h3, h4⟩ := h1
  exact ⟨es, ⟨es, rfl, h3, h4⟩, (h2.2 0 _ _ rfl rfl).1⟩
/-- An argument that is an integer. -/
theorem arg_int {H : Type} {enc : TypeId × Value → H} {W : World} {base : Nat} {t : TypeId} {k : Nat} {q : IntKind} {v : Value} {d : DataW H} {p : List MemPlace} (hty : tyOf Try.prog k t = some (.int q)) (hu : Try.prog.underlying t = some (.int q))
    (hval : Value.okWide Try.prog W .any base t v) (h : DataW.Trod enc Try.prog W 0 (fun _ => true) true t v d p) : ∃ n, (Lit.int q n).wf = true ∧ Ab.R Try.prog N0 (Z.first W) (.int q n) v := by
  have hv : v.cells.toList = [v] := by
    unfold Value.okWide at hval
    rw [hu] at hval
    simp only at hval
    unfold Cell.okWide at hval
    rw [hu] at hval
    cases v <;> first | rfl | (simp [Cell.ok, hu] at hval)
  obtain ⟨fuel, h⟩ := h
  obtain ⟨xs, h1, h2⟩ := trod_cel fuel k t _ _ _ h hty
  rw [hv] at h2
  obtain ⟨n, rfl, h3⟩ := h1
  exact ⟨n, h3, (h2.2 0 _ _ rfl rfl).1⟩
theorem list_of {α : Type} {ty : Ty} {f : α → AV} (h : ∀ cs, Cel ty cs → ∃ x, mkA ty cs = f x) : ∀ {es : List AV}, (∀ e ∈ es, ∃ cs, Cel ty cs ∧ e = mkA ty cs) → ∃ l : List α, es = l.map f
  | [], _ => ⟨[], rfl⟩
  | e :: es, he => by
    obtain ⟨l, rfl⟩ := list_of h (es := es) fun e' h' => he e' (List.mem_cons_of_mem _ h')
    obtain ⟨cs, hc, rfl⟩ := he e (by simp)
    obtain ⟨x, hx⟩ := h cs hc
    exact ⟨x :: l, by simp [hx]⟩
abbrev IT : Ty := .int .i64
theorem int_of {cs : List AV} (h : Cel IT cs) : ∃ n : Int, mkA IT cs = I64 n := by
  obtain ⟨n, rfl, _⟩ := h; exact ⟨n, rfl⟩
theorem ints_of {es : List AV} (h : ∀ e ∈ es, ∃ cs, Cel IT cs ∧ e = mkA IT cs) : ∃ l : List Int, AV.sl es .unk = T.encIs l := by
  obtain ⟨l, rfl⟩ := list_of (f := fun n : Int => I64 n) (fun cs => int_of) h
  exact ⟨l, rfl⟩
def pasTy : Ty := .struct [IT, IT, IT, IT]
def mvTy : Ty := .struct [IT, IT, IT]
def houseTy : Ty := .struct [.slice IT, .slice pasTy]
theorem pas_of {cs : List AV} (h : Cel pasTy cs) : ∃ x : T.Pas, mkA pasTy cs = T.encP x := by
  obtain ⟨_, _, rfl, ⟨a, rfl, _⟩, _, _, rfl, ⟨b, rfl, _⟩, _, _, rfl, ⟨c, rfl, _⟩, _, _, rfl, ⟨d, rfl, _⟩, rfl⟩ := h
  exact ⟨⟨a, b, c, d⟩, rfl⟩
theorem mv_of {cs : List AV} (h : Cel mvTy cs) : ∃ x : T.Mv, mkA mvTy cs = T.encM x := by
  obtain ⟨_, _, rfl, ⟨a, rfl, _⟩, _, _, rfl, ⟨b, rfl, _⟩, _, _, rfl, ⟨c, rfl, _⟩, rfl⟩ := h
  exact ⟨⟨a, b, c⟩, rfl⟩
theorem house_of {cs : List AV} (h : Cel houseTy cs) : ∃ x : T.Ho, AV.agg cs = T.encH x := by
  obtain ⟨_, _, rfl, ⟨e1, rfl, _, h1⟩, _, _, rfl, ⟨e2, rfl, _, h2⟩, rfl⟩ := h
  obtain ⟨l1, rfl⟩ := list_of (f := fun n : Int => I64 n) (fun cs => int_of) h1
  obtain ⟨l2, rfl⟩ := list_of (f := T.encP) (fun cs => pas_of) h2
  exact ⟨⟨l1, l2⟩, rfl⟩
theorem moves_of {es : List AV} (h : ∀ e ∈ es, ∃ cs, Cel mvTy cs ∧ e = mkA mvTy cs) : ∃ l : List T.Mv, AV.sl es .unk = T.encMs l := by
  obtain ⟨l, rfl⟩ := list_of (f := T.encM) (fun cs => mv_of) h
  exact ⟨l, rfl⟩
theorem ty25 : tyOf Try.prog 12 25 = some houseTy := by kernel_rfl
theorem u25 : ∃ fs, Try.prog.underlying 25 = some (.struct fs) := isSt_of (by kernel_rfl)
theorem ty3 : tyOf Try.prog 12 3 = some IT := by kernel_rfl
theorem u3 : Try.prog.underlying 3 = some (.int .i64) := by kernel_rfl
theorem ty26 : tyOf Try.prog 12 26 = some (.slice mvTy) := by kernel_rfl
theorem u26 : Try.prog.underlying 26 = some (.slice 35) := by kernel_rfl
end Go.Proofs.Ytnkdfekbifcglaa
end
