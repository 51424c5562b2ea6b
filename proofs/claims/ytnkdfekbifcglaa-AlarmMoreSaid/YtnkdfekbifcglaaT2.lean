/-
  A part of the proofs over this seat.
  (The texts KrOK, one behind the other.)
-/
import Derived.Test.YtnkdfekbifcglaaT1
import Derived.Test.YtnkdfekbifcglaaA4
import Derived.Test.YtnkdfekbifcglaaProg
import Derived.KernelRfl
set_option linter.unusedSimpArgs false
set_option linter.unusedVariables false
set_option linter.unusedSectionVars false
section
namespace Go.Ab.T
open Go.Proofs
set_option maxRecDepth 100000
def G : Nat → Option AV
  | _ => none
def md : FuncId → Md
  | 69 | 70 | 13 => .o
  | 41 | 63 | 46 | 64 | 74 | 61 | 42 | 43 | 48 | 49 | 62 | 76 | 68 | 65 | 77 | 66 | 67 => .r
  | _ => .v
def own : FuncId → Ow
  | 3 => ⟨false, [13], [], []⟩
  | 4 => ⟨false, [13], [], []⟩
  | 5 => ⟨false, [13], [], []⟩
  | 13 => ⟨true, [], [], []⟩
  | 46 => ⟨false, [], [6000002], []⟩
  | 49 => ⟨false, [2000000], [], []⟩
  | 52 => ⟨false, [], [6000002], []⟩
  | 63 => ⟨false, [], [7000003, 12000016], []⟩
  | 69 => ⟨true, [], [], []⟩
  | 70 => ⟨true, [], [], []⟩
  | 77 => ⟨true, [], [], []⟩
  | _ => ⟨false, [], [], []⟩
theorem tf3 : trFn Try.prog G md own 3 = some a3 := by kernel_rfl
theorem tf4 : trFn Try.prog G md own 4 = some a4 := by kernel_rfl
theorem tf5 : trFn Try.prog G md own 5 = some a5 := by kernel_rfl
theorem tf6 : trFn Try.prog G md own 6 = some a6 := by kernel_rfl
theorem tf7 : trFn Try.prog G md own 7 = some a7 := by kernel_rfl
theorem tf8 : trFn Try.prog G md own 8 = some a8 := by kernel_rfl
theorem tf9 : trFn Try.prog G md own 9 = some a9 := by kernel_rfl
theorem tf10 : trFn Try.prog G md own 10 = some a10 := by kernel_rfl
theorem tf11 : trFn Try.prog G md own 11 = some a11 := by kernel_rfl
theorem tf12 : trFn Try.prog G md own 12 = some a12 := by kernel_rfl
theorem tf13 : trFn Try.prog G md own 13 = some a13 := by kernel_rfl
theorem tf14 : trFn Try.prog G md own 14 = some a14 := by kernel_rfl
theorem tf15 : trFn Try.prog G md own 15 = some a15 := by kernel_rfl
theorem tf16 : trFn Try.prog G md own 16 = some a16 := by kernel_rfl
theorem tf17 : trFn Try.prog G md own 17 = some a17 := by kernel_rfl
theorem tf18 : trFn Try.prog G md own 18 = some a18 := by kernel_rfl
theorem tf19 : trFn Try.prog G md own 19 = some a19 := by kernel_rfl
theorem tf20 : trFn Try.prog G md own 20 = some a20 := by kernel_rfl
theorem tf21 : trFn Try.prog G md own 21 = some a21 := by kernel_rfl
theorem tf22 : trFn Try.prog G md own 22 = some a22 := by kernel_rfl
theorem tf23 : trFn Try.prog G md own 23 = some a23 := by kernel_rfl
theorem tf24 : trFn Try.prog G md own 24 = some a24 := by kernel_rfl
theorem tf25 : trFn Try.prog G md own 25 = some a25 := by kernel_rfl
theorem tf26 : trFn Try.prog G md own 26 = some a26 := by kernel_rfl
theorem tf27 : trFn Try.prog G md own 27 = some a27 := by kernel_rfl
theorem tf28 : trFn Try.prog G md own 28 = some a28 := by kernel_rfl
theorem tf29 : trFn Try.prog G md own 29 = some a29 := by kernel_rfl
theorem tf30 : trFn Try.prog G md own 30 = some a30 := by kernel_rfl
theorem tf31 : trFn Try.prog G md own 31 = some a31 := by kernel_rfl
theorem tf32 : trFn Try.prog G md own 32 = some a32 := by kernel_rfl
theorem tf33 : trFn Try.prog G md own 33 = some a33 := by kernel_rfl
theorem tf34 : trFn Try.prog G md own 34 = some a34 := by kernel_rfl
theorem tf35 : trFn Try.prog G md own 35 = some a35 := by kernel_rfl
theorem tf36 : trFn Try.prog G md own 36 = some a36 := by kernel_rfl
theorem tf37 : trFn Try.prog G md own 37 = some a37 := by kernel_rfl
theorem tf38 : trFn Try.prog G md own 38 = some a38 := by kernel_rfl
theorem tf39 : trFn Try.prog G md own 39 = some a39 := by kernel_rfl
theorem tf40 : trFn Try.prog G md own 40 = some a40 := by kernel_rfl
theorem tf41 : trFn Try.prog G md own 41 = some a41 := by kernel_rfl
theorem tf42 : trFn Try.prog G md own 42 = some a42 := by kernel_rfl
theorem tf43 : trFn Try.prog G md own 43 = some a43 := by kernel_rfl
theorem tf44 : trFn Try.prog G md own 44 = some a44 := by kernel_rfl
theorem tf45 : trFn Try.prog G md own 45 = some a45 := by kernel_rfl
theorem tf46 : trFn Try.prog G md own 46 = some a46 := by kernel_rfl
theorem tf47 : trFn Try.prog G md own 47 = some a47 := by kernel_rfl
theorem tf48 : trFn Try.prog G md own 48 = some a48 := by kernel_rfl
theorem tf49 : trFn Try.prog G md own 49 = some a49 := by kernel_rfl
theorem tf50 : trFn Try.prog G md own 50 = some a50 := by kernel_rfl
theorem tf51 : trFn Try.prog G md own 51 = some a51 := by kernel_rfl
theorem tf52 : trFn Try.prog G md own 52 = some a52 := by kernel_rfl
theorem tf53 : trFn Try.prog G md own 53 = some a53 := by kernel_rfl
theorem tf54 : trFn Try.prog G md own 54 = some a54 := by kernel_rfl
theorem tf55 : trFn Try.prog G md own 55 = some a55 := by kernel_rfl
theorem tf56 : trFn Try.prog G md own 56 = some a56 := by kernel_rfl
theorem tf57 : trFn Try.prog G md own 57 = some a57 := by kernel_rfl
theorem tf58 : trFn Try.prog G md own 58 = some a58 := by kernel_rfl
theorem tf59 : trFn Try.prog G md own 59 = some a59 := by kernel_rfl
theorem tf60 : trFn Try.prog G md own 60 = some a60 := by kernel_rfl
theorem tf61 : trFn Try.prog G md own 61 = some a61 := by kernel_rfl
theorem tf62 : trFn Try.prog G md own 62 = some a62 := by kernel_rfl
theorem tf63 : trFn Try.prog G md own 63 = some a63 := by kernel_rfl
theorem tf64 : trFn Try.prog G md own 64 = some a64 := by kernel_rfl
theorem tf65 : trFn Try.prog G md own 65 = some a65 := by kernel_rfl
theorem tf66 : trFn Try.prog G md own 66 = some a66 := by kernel_rfl
theorem tf67 : trFn Try.prog G md own 67 = some a67 := by kernel_rfl
theorem tf68 : trFn Try.prog G md own 68 = some a68 := by kernel_rfl
theorem tf69 : trFn Try.prog G md own 69 = some a69 := by kernel_rfl
theorem tf70 : trFn Try.prog G md own 70 = some a70 := by kernel_rfl
theorem tf71 : trFn Try.prog G md own 71 = some a71 := by kernel_rfl
theorem tf72 : trFn Try.prog G md own 72 = some a72 := by kernel_rfl
theorem tf73 : trFn Try.prog G md own 73 = some a73 := by kernel_rfl
theorem tf74 : trFn Try.prog G md own 74 = some a74 := by kernel_rfl
theorem tf75 : trFn Try.prog G md own 75 = some a75 := by kernel_rfl
theorem tf76 : trFn Try.prog G md own 76 = some a76 := by kernel_rfl
theorem tf77 : trFn Try.prog G md own 77 = some a77 := by kernel_rfl
noncomputable def C : Cx := ⟨Try.prog, G, md, own, ft⟩
theorem ft_ok (f : FuncId) (fn : AFn) (h : ft f = some fn) : fn.md = md f ∧ trFn Try.prog G md own f = some fn := by
  unfold ft at h
  split at h
  · cases h; exact ⟨rfl, tf3⟩
  · cases h; exact ⟨rfl, tf4⟩
  · cases h; exact ⟨rfl, tf5⟩
  · cases h; exact ⟨rfl, tf6⟩
  · cases h; exact ⟨rfl, tf7⟩
  · cases h; exact ⟨rfl, tf8⟩
  · cases h; exact ⟨rfl, tf9⟩
  · cases h; exact ⟨rfl, tf10⟩
  · cases h; exact ⟨rfl, tf11⟩
  · cases h; exact ⟨rfl, tf12⟩
  · cases h; exact ⟨rfl, tf13⟩
  · cases h; exact ⟨rfl, tf14⟩
  · cases h; exact ⟨rfl, tf15⟩
  · cases h; exact ⟨rfl, tf16⟩
  · cases h; exact ⟨rfl, tf17⟩
  · cases h; exact ⟨rfl, tf18⟩
  · cases h; exact ⟨rfl, tf19⟩
  · cases h; exact ⟨rfl, tf20⟩
  · cases h; exact ⟨rfl, tf21⟩
  · cases h; exact ⟨rfl, tf22⟩
  · cases h; exact ⟨rfl, tf23⟩
  · cases h; exact ⟨rfl, tf24⟩
  · cases h; exact ⟨rfl, tf25⟩
  · cases h; exact ⟨rfl, tf26⟩
  · cases h; exact ⟨rfl, tf27⟩
  · cases h; exact ⟨rfl, tf28⟩
  · cases h; exact ⟨rfl, tf29⟩
  · cases h; exact ⟨rfl, tf30⟩
  · cases h; exact ⟨rfl, tf31⟩
  · cases h; exact ⟨rfl, tf32⟩
  · cases h; exact ⟨rfl, tf33⟩
  · cases h; exact ⟨rfl, tf34⟩
  · cases h; exact ⟨rfl, tf35⟩
  · cases h; exact ⟨rfl, tf36⟩
  · cases h; exact ⟨rfl, tf37⟩
  · cases h; exact ⟨rfl, tf38⟩
  · cases h; exact ⟨rfl, tf39⟩
  · cases h; exact ⟨rfl, tf40⟩
  · cases h; exact ⟨rfl, tf41⟩
  · cases h; exact ⟨rfl, tf42⟩
  · cases h; exact ⟨rfl, tf43⟩
  · cases h; exact ⟨rfl, tf44⟩
  · cases h; exact ⟨rfl, tf45⟩
  · cases h; exact ⟨rfl, tf46⟩
  · cases h; exact ⟨rfl, tf47⟩
  · cases h; exact ⟨rfl, tf48⟩
  · cases h; exact ⟨rfl, tf49⟩
  · cases h; exact ⟨rfl, tf50⟩
  · cases h; exact ⟨rfl, tf51⟩
  · cases h; exact ⟨rfl, tf52⟩
  · cases h; exact ⟨rfl, tf53⟩
  · cases h; exact ⟨rfl, tf54⟩
  · cases h; exact ⟨rfl, tf55⟩
  · cases h; exact ⟨rfl, tf56⟩
  · cases h; exact ⟨rfl, tf57⟩
  · cases h; exact ⟨rfl, tf58⟩
  · cases h; exact ⟨rfl, tf59⟩
  · cases h; exact ⟨rfl, tf60⟩
  · cases h; exact ⟨rfl, tf61⟩
  · cases h; exact ⟨rfl, tf62⟩
  · cases h; exact ⟨rfl, tf63⟩
  · cases h; exact ⟨rfl, tf64⟩
  · cases h; exact ⟨rfl, tf65⟩
  · cases h; exact ⟨rfl, tf66⟩
  · cases h; exact ⟨rfl, tf67⟩
  · cases h; exact ⟨rfl, tf68⟩
  · cases h; exact ⟨rfl, tf69⟩
  · cases h; exact ⟨rfl, tf70⟩
  · cases h; exact ⟨rfl, tf71⟩
  · cases h; exact ⟨rfl, tf72⟩
  · cases h; exact ⟨rfl, tf73⟩
  · cases h; exact ⟨rfl, tf74⟩
  · cases h; exact ⟨rfl, tf75⟩
  · cases h; exact ⟨rfl, tf76⟩
  · cases h; exact ⟨rfl, tf77⟩
  · cases h
theorem glob_ok (g : Nat) (e : AV) (h : G g = some e) : hot dep (.pv e 0) = false ∧ ∀ m, snap m dep (.pv e 0) = .pv e 0 := by
  cases h
theorem C_ok : C.OK where
  glob := glob_ok
  md := fun f fn h => (ft_ok f fn h).1
  fns := fun f fn h => (ft_ok f fn h).2
  names := fun f fn F _ hF => by
    have : (Try.prog.funcs.toList.all fun F => !(F.name == "runtime.NumGoroutine")) = true := by kernel_rfl
    have := List.all_eq_true.1 this F (by rw [← Array.getElem?_toList] at hF; exact List.mem_of_getElem? hF)
    simpa using this
  mixed := by kernel_rfl
end Go.Ab.T
end
