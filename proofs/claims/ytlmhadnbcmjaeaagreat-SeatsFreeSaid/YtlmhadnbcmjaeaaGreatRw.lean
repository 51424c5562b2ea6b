/-
  A part of the proofs over this seat.
  (The texts KqRow, one behind the other.)
-/
import Derived.Test.YtlmhadnbcmjaeaaGreatT2
import Derived.Test.YtlmhadnbcmjaeaaGreatP1
import Derived.Test.YtlmhadnbcmjaeaaGreatA4
import Derived.Test.YtlmhadnbcmjaeaaGreatRows
import Derived.ProofKit
import Derived.SizedLaws
set_option linter.unusedSimpArgs false
set_option linter.unusedVariables false
set_option linter.unusedSectionVars false
section
namespace Go.Proofs.YtlmhadnbcmjaeaaGreat
open Go Go.ChangeShapes Go.WideShapes Go.ChangeAt Go.WideMaps Go.WideElems Go.RowKit Go.Ab
set_option maxRecDepth 100000
theorem own : ownKnob Tryz.prog.godebug = none := by kernel_rfl
theorem u4 : Tryz.prog.underlying 4 = some .bool := by kernel_rfl
theorem glob_of {W : World} : ∀ g e, T.C.G g = some e → Ab.R T.C.P N0 (Z.first W) (.pv e 0) (.pointer (some ⟨g, 0, none⟩)) := by
  intro g e hge
  cases hge
noncomputable def isSt (t : TypeId) : Bool := match Tryz.prog.underlying t with | some (.struct _) => true | _ => false
theorem isSt_of {t : TypeId} (h : isSt t = true) : ∃ fs, Tryz.prog.underlying t = some (.struct fs) := by
  unfold isSt at h
  split at h
  · rename_i fs hfs; exact ⟨fs, hfs⟩
  · cases h
theorem arg_struct {H : Type} {enc : TypeId × Value → H} {W : World} {base : Nat} {t : TypeId} {k : Nat} {ts : List Ty} {v : Value} {d : DataW H} {p : List MemPlace} (hty : tyOf Tryz.prog k t = some (.struct ts)) (hu : ∃ fs, Tryz.prog.underlying t = some (.struct fs))
    (hval : Value.okWide Tryz.prog W .any base t v) (h : DataW.Trod enc Tryz.prog W 0 (fun _ => true) true t v d p) : ∃ xs, Cel (.struct ts) xs ∧ Ab.R Tryz.prog N0 (Z.first W) (.agg xs) v := by
  obtain ⟨fs, hu⟩ := hu
  obtain ⟨cs, rfl, _⟩ : ∃ cs, v = .agg cs ∧ True := by
    unfold Value.okWide at hval
    rw [hu] at hval
    obtain ⟨cs, h1, _⟩ := hval
    exact ⟨cs, h1, trivial⟩
  obtain ⟨fuel, h⟩ := h
  obtain ⟨xs, h1, h2⟩ := trod_cel fuel k t _ _ _ h hty
  exact ⟨xs, h1, R_agg.2 ⟨cs, rfl, h2.mono fun _ _ h => h.1⟩⟩
theorem arg_slice {H : Type} {enc : TypeId × Value → H} {W : World} {base : Nat} {t e : TypeId} {k : Nat} {ty : Ty} {v : Value} {d : DataW H} {p : List MemPlace} (hty : tyOf Tryz.prog k t = some (.slice ty)) (hu : Tryz.prog.underlying t = some (.slice e))
    (hval : Value.okWide Tryz.prog W .any base t v) (h : DataW.Trod enc Tryz.prog W 0 (fun _ => true) true t v d p) : ∃ es, Cel (.slice ty) [.sl es .unk] ∧ Ab.R Tryz.prog N0 (Z.first W) (.sl es .unk) v := by
  have hv : v.cells.toList = [v] := by
    unfold Value.okWide at hval
    rw [hu] at hval
    simp only at hval
    unfold Cell.okWide at hval
    rw [hu] at hval
    cases v <;> first | rfl | (simp [Cell.ok, hu] at hval)
  obtain ⟨fuel, h⟩ := h
  obtain ⟨xs, h1, h2⟩ := trod_cel fuel k t _ _ _ h hty
  rw [hv] at h2
  obtain ⟨es, rfl, h3, h4⟩ := h1
  exact ⟨es, ⟨es, rfl, h3, h4⟩, (h2.2 0 _ _ rfl rfl).1⟩
theorem list_of {α : Type} {ty : Ty} {f : α → AV} (h : ∀ cs, Cel ty cs → ∃ x, mkA ty cs = f x) : ∀ {es : List AV}, (∀ e ∈ es, ∃ cs, Cel ty cs ∧ e = mkA ty cs) → ∃ l : List α, es = l.map f
  | [], _ => ⟨[], rfl⟩
  | e :: es, he => by
    obtain ⟨l, rfl⟩ := list_of h (es := es) fun e' h' => he e' (List.mem_cons_of_mem _ h')
    obtain ⟨cs, hc, rfl⟩ := he e (by simp)
    obtain ⟨x, hx⟩ := h cs hc
    exact ⟨x :: l, by simp [hx]⟩
abbrev IT : Ty := .int .i64
theorem int_of {cs : List AV} (h : Cel IT cs) : ∃ n : Int, mkA IT cs = I64 n := by
  obtain ⟨n, rfl, _⟩ := h; exact ⟨n, rfl⟩
theorem intsl_of {es : List AV} (h : ∀ e ∈ es, ∃ cs, Cel IT cs ∧ e = mkA IT cs) (n : es.length ≤ maxLen) : ∃ l : List Int, AV.sl es .unk = T.encIs l ∧ l.length < 9223372036854775808 := by
  obtain ⟨l, rfl⟩ := list_of (f := fun n : Int => I64 n) (fun cs => int_of) h
  rw [List.length_map] at n
  exact ⟨l, rfl, Nat.lt_of_le_of_lt n (by decide)⟩
def hallTy : Ty := .struct [.slice IT, IT]
theorem hall_of {cs : List AV} (h : Cel hallTy cs) : ∃ x : T.Hl, AV.agg cs = T.encH x ∧ x.rows.length < 9223372036854775808 := by
  obtain ⟨_, _, rfl, ⟨e1, rfl, n1, h1⟩, _, _, rfl, ⟨b, rfl, _⟩, rfl⟩ := h
  obtain ⟨l1, g1, n⟩ := intsl_of h1 n1
  exact ⟨⟨l1, b⟩, by show AV.agg [.sl e1 .unk, I64 b] = _; rw [g1]; rfl, n⟩
theorem ty24 : tyOf Tryz.prog 9 24 = some hallTy := by kernel_rfl
theorem u24 : ∃ fs, Tryz.prog.underlying 24 = some (.struct fs) := isSt_of (by kernel_rfl)
end Go.Proofs.YtlmhadnbcmjaeaaGreat
end
