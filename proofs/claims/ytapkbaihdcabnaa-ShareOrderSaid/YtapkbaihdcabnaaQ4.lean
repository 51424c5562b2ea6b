/-
  A part of the proofs over this seat.
  (The texts KsM7 KsK23, one behind the other.)
-/
import Derived.Test.YtapkbaihdcabnaaQ2
import Derived.Test.YtapkbaihdcabnaaP5
import Derived.Test.YtapkbaihdcabnaaQ3
set_option linter.unusedSimpArgs false
set_option linter.unusedVariables false
set_option linter.unusedSectionVars false
section
namespace Go.Ab.T
/-! ### All that can be due -/
/-! ### When what is left is paid -/
end Go.Ab.T
end

section
namespace Go.Ab.T
set_option maxRecDepth 8000
set_option maxHeartbeats 4000000
/-- Some more behind a slice that is appended to. -/
theorem AppV.appL {T : Nat} {es ys : List AV} {v : AV} {toks : List (Nat × Nat)} (h : AppV T es v toks) {tk : Tk} {sz bytes : Nat} {blks : List Blk} {K : AV × Mem → Prop}
    (hs : hdSz es sz = true) (hy : hdSz ys sz = true) (hl : (es.length + ys.length) * (bytes + 1) ≤ limit)
    (hk : ∀ v' toks', AppV T (es ++ ys) v' toks' → K (v', ⟨blks, toks'⟩)) : @OptH _ (appendAt ⟨blks, toks⟩ false v (.sl ys tk) T sz bytes) ⟨K⟩ := by
  rcases h with ⟨rfl, rfl⟩ | ⟨hne, t, rfl, ht⟩
  · exact AppV.copy hy (by simpa using hl) fun v' toks' h _ _ => hk v' toks' h
  · simp only [appendAt, Mem.elems, hy, hs, OptH, appTk]
    rw [if_neg (by simp), if_pos ⟨hl, trivial⟩]
    simp only [Bool.false_eq_true, if_false]
    by_cases hy0 : ys = []
    · subst hy0
      rw [List.append_nil] at hk ⊢
      exact hk _ _ (.inr ⟨hne, t, rfl, ht⟩)
    · have h1 : ys.length ≠ 0 := by simpa using hy0
      have h2 : es.length ≠ 0 := by simpa using hne
      rw [if_neg h1, if_pos ⟨ht, h2⟩]
      have hlt := (List.getElem?_eq_some_iff.1 ht).1
      exact hk _ _ (.inr ⟨by simp [hne], t, rfl, by simp [hlt]⟩)
end Go.Ab.T
end
