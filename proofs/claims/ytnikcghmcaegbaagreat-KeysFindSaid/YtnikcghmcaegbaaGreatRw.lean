/-
 A part of the proofs over this seat.
 (The texts KxRow, one behind the other.)
-/
import Derived.Test.YtnikcghmcaegbaaGreatT2
import Derived.Test.YtnikcghmcaegbaaGreatP2
import Derived.Test.YtnikcghmcaegbaaGreatA4
import Derived.Test.YtnikcghmcaegbaaGreatRows
import Derived.ProofKit
import Derived.SizedLaws
set_option linter.unusedSimpArgs false
set_option linter.unusedVariables false
set_option linter.unusedSectionVars false
section
namespace Go.Proofs.YtnikcghmcaegbaaGreat
open Go Go.ChangeShapes Go.WideShapes Go.ChangeAt Go.WideMaps Go.WideElems Go.RowKit Go.Ab
set_option maxRecDepth 100000
theorem own : ownKnob Tryz.prog.godebug = none := by kernel_rfl
theorem u4 : Tryz.prog.underlying 4 = some .bool := by kernel_rfl
theorem glob_of {W : World} : ∀ g e, T.C.G g = some e → Ab.R T.C.P N0 (Z.first W) (.pv e 0) (.pointer (some ⟨g, 0, none⟩)) := by
 intro g e hge
 cases hge
noncomputable def isSt (t : TypeId) : Bool := match Tryz.prog.underlying t with | some (.struct _) => true | _ => false
theorem isSt_of {t : TypeId} (h : isSt t = true) : ∃ fs, Tryz.prog.underlying t = some (.struct fs) := by
 unfold isSt at h
 split at h
 ·rename_i fs hfs; exact ⟨fs, hfs⟩
 ·cases h
/-- An argument that is a struct. -/
theorem arg_struct {H : Type} {enc : TypeId × Value → H} {W : World} {base : Nat} {t : TypeId} {k : Nat} {ts : List Ty} {v : Value} {d : DataW H} {p : List MemPlace} (hty : tyOf Tryz.prog k t = some (.struct ts)) (hu : ∃ fs, Tryz.prog.underlying t = some (.struct fs))
  (hval : Value.okWide Tryz.prog W .any base t v) (h : DataW.Trod enc Tryz.prog W 0 (fun _ => true) true t v d p) : ∃ xs, Cel (.struct ts) xs ∧ Ab.R Tryz.prog N0 (Z.first W) (.agg xs) v := by
 obtain ⟨fs, hu⟩ := hu
 obtain ⟨cs, rfl, _⟩ : ∃ cs, v = .agg cs ∧ True := by
  unfold Value.okWide at hval
  rw [hu] at hval
  obtain ⟨cs, h1, _⟩ := hval
  exact ⟨cs, h1, trivial⟩
 obtain ⟨fuel, h⟩ := h
 obtain ⟨xs, h1, h2⟩ := trod_cel fuel k t _ _ _ h hty
 exact ⟨xs, h1, R_agg.2 ⟨cs, rfl, h2.mono fun _ _ h => h.1⟩⟩
theorem list_of {α : Type} {ty : Ty} {f : α → AV} (h : ∀ cs, Cel ty cs → ∃ x, mkA ty cs = f x) : ∀ {es : List AV}, (∀ e ∈ es, ∃ cs, Cel ty cs ∧ e = mkA ty cs) → ∃ l : List α, es = l.map f
 | [], _ => ⟨[], rfl⟩
 | e :: es, he => by
  obtain ⟨l, rfl⟩ := list_of h (es := es) fun e' h' => he e' (List.mem_cons_of_mem _ h')
  obtain ⟨cs, hc, rfl⟩ := he e (by simp)
  obtain ⟨x, hx⟩ := h cs hc
  exact ⟨x :: l, by simp [hx]⟩
abbrev IT : Ty := .int .i64
theorem int_of {cs : List AV} (h : Cel IT cs) : ∃ n : Int, mkA IT cs = I64 n := by
 obtain ⟨n, rfl, _⟩ := h; exact ⟨n, rfl⟩
theorem ints_of {es : List AV} (h : ∀ e ∈ es, ∃ cs, Cel IT cs ∧ e = mkA IT cs) : ∃ l : List Int, AV.sl es .unk = T.encI l := by
 obtain ⟨l, rfl⟩ := list_of (f := fun n : Int => I64 n) (fun cs => int_of) h
 exact ⟨l, rfl⟩
def fileTy : Ty := .struct [IT, IT]
def compTy : Ty := .struct [IT, IT, IT, IT, IT, .bool, .slice IT]
def servTy : Ty := .struct [IT, .slice IT, .slice fileTy]
def keyTy : Ty := .struct [IT, IT, .slice IT, IT, IT]
def libTy : Ty := .struct [.slice fileTy, .slice compTy, .slice servTy, .slice keyTy, .slice IT]
def askTy : Ty := .struct [IT, IT, IT]
theorem file_of {cs : List AV} (h : Cel fileTy cs) : ∃ x : T.Fl, mkA fileTy cs = T.encF x := by
 obtain ⟨_, _, rfl, ⟨a, rfl, _⟩, _, _, rfl, ⟨b, rfl, _⟩, rfl⟩ := h
 exact ⟨⟨a, b⟩, rfl⟩
theorem files_of {es : List AV} (h : ∀ e ∈ es, ∃ cs, Cel fileTy cs ∧ e = mkA fileTy cs) : ∃ l : List T.Fl, AV.sl es .unk = T.encFs l := by
 obtain ⟨l, rfl⟩ := list_of (f := T.encF) (fun cs => file_of) h
 exact ⟨l, rfl⟩
theorem comp_of {cs : List AV} (h : Cel compTy cs) : ∃ x : T.Cm, mkA compTy cs = T.encC x := by
 obtain ⟨_, _, rfl, ⟨a, rfl, _⟩, _, _, rfl, ⟨b, rfl, _⟩, _, _, rfl, ⟨c, rfl, _⟩, _, _, rfl, ⟨d, rfl, _⟩, _, _, rfl, ⟨e, rfl, _⟩, _, _, rfl, ⟨f, rfl⟩, _, _, rfl, ⟨es, rfl, _, hes⟩, rfl⟩ := h
 obtain ⟨l, hl⟩ := ints_of hes
 exact ⟨⟨a, b, c, d, e, f, l⟩, by show AV.agg [I64 a, I64 b, I64 c, I64 d, I64 e, .bool f, .sl es .unk] = _; rw [hl]; rfl⟩
theorem serv_of {cs : List AV} (h : Cel servTy cs) : ∃ x : T.Sv, mkA servTy cs = T.encV x := by
 obtain ⟨_, _, rfl, ⟨a, rfl, _⟩, _, _, rfl, ⟨es, rfl, _, hes⟩, _, _, rfl, ⟨es2, rfl, _, hes2⟩, rfl⟩ := h
 obtain ⟨l, hl⟩ := ints_of hes
 obtain ⟨l2, hl2⟩ := files_of hes2
 exact ⟨⟨a, l, l2⟩, by show AV.agg [I64 a, .sl es .unk, .sl es2 .unk] = _; rw [hl, hl2]; rfl⟩
theorem key_of {cs : List AV} (h : Cel keyTy cs) : ∃ x : T.Ky, mkA keyTy cs = T.encK x := by
 obtain ⟨_, _, rfl, ⟨a, rfl, _⟩, _, _, rfl, ⟨b, rfl, _⟩, _, _, rfl, ⟨es, rfl, _, hes⟩, _, _, rfl, ⟨c, rfl, _⟩, _, _, rfl, ⟨d, rfl, _⟩, rfl⟩ := h
 obtain ⟨l, hl⟩ := ints_of hes
 exact ⟨⟨a, b, l, c, d⟩, by show AV.agg [I64 a, I64 b, .sl es .unk, I64 c, I64 d] = _; rw [hl]; rfl⟩
theorem keys_of {es : List AV} (h : ∀ e ∈ es, ∃ cs, Cel keyTy cs ∧ e = mkA keyTy cs) : ∃ l : List T.Ky, AV.sl es .unk = T.encYs l := by
 obtain ⟨l, rfl⟩ := list_of (f := T.encK) (fun cs => key_of) h
 exact ⟨l, rfl⟩
theorem lib_of {cs : List AV} (h : Cel libTy cs) : ∃ x : T.Lb, AV.agg cs = T.encL x := by
 obtain ⟨_, _, rfl, ⟨e1, rfl, _, h1⟩, _, _, rfl, ⟨e2, rfl, _, h2⟩, _, _, rfl, ⟨e3, rfl, _, h3⟩, _, _, rfl, ⟨e4, rfl, _, h4⟩, _, _, rfl, ⟨e5, rfl, _, h5⟩, rfl⟩ := h
 obtain ⟨l1, g1⟩ := files_of h1
 obtain ⟨l2, rfl⟩ := list_of (f := T.encC) (fun cs => comp_of) h2
 obtain ⟨l3, rfl⟩ := list_of (f := T.encV) (fun cs => serv_of) h3
 obtain ⟨l4, g4⟩ := keys_of h4
 obtain ⟨l5, g5⟩ := ints_of h5
 exact ⟨⟨l1, l2, l3, l4, l5⟩, by show AV.agg [.sl e1 .unk, .sl (l2.map T.encC) .unk, .sl (l3.map T.encV) .unk, .sl e4 .unk, .sl e5 .unk] = _; rw [g1, g4, g5]; rfl⟩
theorem ask_of {cs : List AV} (h : Cel askTy cs) : ∃ x : T.Ask, AV.agg cs = T.encA x := by
 obtain ⟨_, _, rfl, ⟨a, rfl, _⟩, _, _, rfl, ⟨b, rfl, _⟩, _, _, rfl, ⟨c, rfl, _⟩, rfl⟩ := h
 exact ⟨⟨a, b, c⟩, rfl⟩
theorem ty28 : tyOf Tryz.prog 9 28 = some libTy := by kernel_rfl
theorem u28 : ∃ fs, Tryz.prog.underlying 28 = some (.struct fs) := isSt_of (by kernel_rfl)
theorem ty30 : tyOf Tryz.prog 9 30 = some askTy := by kernel_rfl
theorem u30 : ∃ fs, Tryz.prog.underlying 30 = some (.struct fs) := isSt_of (by kernel_rfl)
theorem ty47 : tyOf Tryz.prog 9 47 = some compTy := by kernel_rfl
theorem u47 : ∃ fs, Tryz.prog.underlying 47 = some (.struct fs) := isSt_of (by kernel_rfl)
theorem u32 : ∃ fs, Tryz.prog.underlying 32 = some (.struct fs) := isSt_of (by kernel_rfl)
end Go.Proofs.YtnikcghmcaegbaaGreat
end
