/-
  A part of the proofs over this seat.
  (The texts KsRow, one behind the other.)
-/
import Derived.Test.YtapkbaihdcabnaaT2
import Derived.Test.YtapkbaihdcabnaaP1
import Derived.Test.YtapkbaihdcabnaaA4
import Derived.Test.YtapkbaihdcabnaaRows
import Derived.ProofKit
import Derived.SizedLaws
set_option linter.unusedSimpArgs false
set_option linter.unusedVariables false
set_option linter.unusedSectionVars false
section
namespace Go.Proofs.Ytapkbaihdcabnaa
open Go Go.ChangeShapes Go.WideShapes Go.ChangeAt Go.WideMaps Go.WideElems Go.RowKit Go.Ab
set_option maxRecDepth 100000
theorem own : ownKnob Try.prog.godebug = none := by kernel_rfl
theorem u4 : Try.prog.underlying 4 = some .bool := by kernel_rfl
theorem glob_of {W : World} : ∀ g e, T.C.G g = some e → Ab.R T.C.P N0 (Z.first W) (.pv e 0) (.pointer (some ⟨g, 0, none⟩)) := by
  intro g e hge
  cases hge
noncomputable def isSt (t : TypeId) : Bool := match Try.prog.underlying t with | some (.struct _) => true | _ => false
theorem isSt_of {t : TypeId} (h : isSt t = true) : ∃ fs, Try.prog.underlying t = some (.struct fs) := by
  unfold isSt at h
  split at h
  · rename_i fs hfs; exact ⟨fs, hfs⟩
  · cases h
/-- An argument that is a struct. -/
theorem arg_struct {H : Type} {enc : TypeId × Value → H} {W : World} {base : Nat} {t : TypeId} {k : Nat} {ts : List Ty} {v : Value} {d : DataW H} {p : List MemPlace} (hty : tyOf Try.prog k t = some (.struct ts)) (hu : ∃ fs, Try.prog.underlying t = some (.struct fs))
    (hval : Value.okWide Try.prog W .any base t v) (h : DataW.Trod enc Try.prog W 0 (fun _ => true) true t v d p) : ∃ xs, Cel (.struct ts) xs ∧ Ab.R Try.prog N0 (Z.first W) (.agg xs) v := by
  obtain ⟨fs, hu⟩ := hu
  obtain ⟨cs, rfl, _⟩ : ∃ cs, v = .agg cs ∧ True := by
    unfold Value.okWide at hval
    rw [hu] at hval
    obtain ⟨cs, h1, _⟩ := hval
    exact ⟨cs, h1, trivial⟩
  obtain ⟨fuel, h⟩ := h
  obtain ⟨xs, h1, h2⟩ := trod_cel fuel k t _ _ _ h hty
  exact ⟨xs, h1, R_agg.2 ⟨cs, rfl, h2.mono fun _ _ h => h.1⟩⟩
theorem list_of {α : Type} {ty : Ty} {f : α → AV} (h : ∀ cs, Cel ty cs → ∃ x, mkA ty cs = f x) : ∀ {es : List AV}, (∀ e ∈ es, ∃ cs, Cel ty cs ∧ e = mkA ty cs) → ∃ l : List α, es = l.map f
  | [], _ => ⟨[], rfl⟩
  | e :: es, he => by
    obtain ⟨l, rfl⟩ := list_of h (es := es) fun e' h' => he e' (List.mem_cons_of_mem _ h')
    obtain ⟨cs, hc, rfl⟩ := he e (by simp)
    obtain ⟨x, hx⟩ := h cs hc
    exact ⟨x :: l, by simp [hx]⟩
abbrev IT : Ty := .int .i64
theorem int_of {cs : List AV} (h : Cel IT cs) : ∃ n : Int, mkA IT cs = I64 n := by
  obtain ⟨n, rfl, _⟩ := h; exact ⟨n, rfl⟩
theorem ints_of {es : List AV} (h : ∀ e ∈ es, ∃ cs, Cel IT cs ∧ e = mkA IT cs) : ∃ l : List Int, AV.sl es .unk = T.encIs l := by
  obtain ⟨l, rfl⟩ := list_of (f := fun n : Int => I64 n) (fun cs => int_of) h
  exact ⟨l, rfl⟩
def tierTy : Ty := .struct [IT, IT]
def contractTy : Ty := .struct [IT, IT, IT, .slice IT, .slice tierTy, IT, IT, IT, IT]
def reportTy : Ty := .struct [IT, IT, IT, IT, IT, IT]
def bookTy : Ty := .struct [IT, .slice contractTy, .slice reportTy]
def askTy : Ty := .struct [IT, IT, IT]
theorem tier_of {cs : List AV} (h : Cel tierTy cs) : ∃ x : T.Ti, mkA tierTy cs = T.encT x := by
  obtain ⟨_, _, rfl, ⟨a, rfl, _⟩, _, _, rfl, ⟨b, rfl, _⟩, rfl⟩ := h
  exact ⟨⟨a, b⟩, rfl⟩
theorem contract_of {cs : List AV} (h : Cel contractTy cs) : ∃ x : T.Ct, mkA contractTy cs = T.encC x := by
  obtain ⟨_, _, rfl, ⟨a, rfl, _⟩, _, _, rfl, ⟨b, rfl, _⟩, _, _, rfl, ⟨c, rfl, _⟩, _, _, rfl, ⟨e1, rfl, _, h1⟩, _, _, rfl, ⟨e2, rfl, _, h2⟩, _, _, rfl, ⟨d, rfl, _⟩, _, _, rfl, ⟨e, rfl, _⟩, _, _, rfl, ⟨f, rfl, _⟩, _, _, rfl, ⟨g, rfl, _⟩, rfl⟩ := h
  obtain ⟨l1, g1⟩ := ints_of h1
  obtain ⟨l2, rfl⟩ := list_of (f := T.encT) (fun cs => tier_of) h2
  exact ⟨⟨a, b, c, l1, l2, d, e, f, g⟩, by show AV.agg [I64 a, I64 b, I64 c, .sl e1 .unk, .sl (l2.map T.encT) .unk, I64 d, I64 e, I64 f, I64 g] = _; rw [g1]; rfl⟩
theorem report_of0 {cs : List AV} (h : Cel reportTy cs) : ∃ x : T.Rp, AV.agg cs = T.encR x := by
  obtain ⟨_, _, rfl, ⟨a, rfl, _⟩, _, _, rfl, ⟨b, rfl, _⟩, _, _, rfl, ⟨c, rfl, _⟩, _, _, rfl, ⟨d, rfl, _⟩, _, _, rfl, ⟨e, rfl, _⟩, _, _, rfl, ⟨f, rfl, _⟩, rfl⟩ := h
  exact ⟨⟨a, b, c, d, e, f⟩, rfl⟩
theorem book_of {cs : List AV} (h : Cel bookTy cs) : ∃ x : T.Bk, AV.agg cs = T.encB x := by
  obtain ⟨_, _, rfl, ⟨a, rfl, _⟩, _, _, rfl, ⟨e1, rfl, _, h1⟩, _, _, rfl, ⟨e2, rfl, _, h2⟩, rfl⟩ := h
  obtain ⟨l1, rfl⟩ := list_of (f := T.encC) (fun cs => contract_of) h1
  obtain ⟨l2, rfl⟩ := list_of (f := T.encR) (fun cs h => report_of0 h) h2
  exact ⟨⟨a, l1, l2⟩, rfl⟩
theorem ask_of {cs : List AV} (h : Cel askTy cs) : ∃ (a b c : Int), AV.agg cs = .agg [I64 a, I64 b, I64 c] := by
  obtain ⟨_, _, rfl, ⟨a, rfl, _⟩, _, _, rfl, ⟨b, rfl, _⟩, _, _, rfl, ⟨c, rfl, _⟩, rfl⟩ := h
  exact ⟨a, b, c, rfl⟩
theorem ty25 : tyOf Try.prog 12 25 = some bookTy := by kernel_rfl
theorem u25 : ∃ fs, Try.prog.underlying 25 = some (.struct fs) := isSt_of (by kernel_rfl)
theorem ty42 : tyOf Try.prog 12 42 = some askTy := by kernel_rfl
theorem u42 : ∃ fs, Try.prog.underlying 42 = some (.struct fs) := isSt_of (by kernel_rfl)
end Go.Proofs.Ytapkbaihdcabnaa
end
