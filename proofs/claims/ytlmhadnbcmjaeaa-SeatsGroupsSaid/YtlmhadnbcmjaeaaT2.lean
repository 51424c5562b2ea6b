/-
  A part of the proofs over this seat.
  (The texts KhOK, one behind the other.)
-/
import Derived.Test.YtlmhadnbcmjaeaaT1
import Derived.Test.YtlmhadnbcmjaeaaA4
import Derived.Test.YtlmhadnbcmjaeaaProg
import Derived.KernelRfl
set_option linter.unusedSimpArgs false
set_option linter.unusedVariables false
set_option linter.unusedSectionVars false
section
namespace Go.Ab.T
open Go.Proofs
set_option maxRecDepth 100000
def G : Nat → Option AV
  | _ => none
def md : FuncId → Md
  | 51 | 64 | 69 => .o
  | 34 | 36 | 37 | 38 | 40 | 42 | 53 | 54 | 56 | 58 | 70 | 74 | 75 | 76 | 77 | 78 | 79 | 80 | 81 | 82 | 83 | 84 | 86 | 87 | 97 | 99 | 100 | 102 | 103 | 104 | 108 | 109 | 110 | 111 | 112 | 113 | 114 | 115 | 116 | 118 | 119 | 120 | 121 => .r
  | _ => .v
def own : FuncId → Ow
  | 28 => ⟨true, [], [], []⟩
  | 47 => ⟨true, [], [], []⟩
  | 51 => ⟨true, [], [], []⟩
  | 54 => ⟨false, [], [], [5, 14, 15, 16, 17, 18, 19, 20, 21, 22, 23, 24, 25, 26, 27, 28, 29, 30, 31, 32, 33, 34, 35, 36, 37]⟩
  | 69 => ⟨true, [], [], [3, 4, 5, 6, 7]⟩
  | 76 => ⟨true, [], [], []⟩
  | _ => ⟨false, [], [], []⟩
theorem tf7 : trFn Try.prog G md own 7 = some a7 := by kernel_rfl
theorem tf11 : trFn Try.prog G md own 11 = some a11 := by kernel_rfl
theorem tf13 : trFn Try.prog G md own 13 = some a13 := by kernel_rfl
theorem tf14 : trFn Try.prog G md own 14 = some a14 := by kernel_rfl
theorem tf17 : trFn Try.prog G md own 17 = some a17 := by kernel_rfl
theorem tf19 : trFn Try.prog G md own 19 = some a19 := by kernel_rfl
theorem tf20 : trFn Try.prog G md own 20 = some a20 := by kernel_rfl
theorem tf23 : trFn Try.prog G md own 23 = some a23 := by kernel_rfl
theorem tf24 : trFn Try.prog G md own 24 = some a24 := by kernel_rfl
theorem tf25 : trFn Try.prog G md own 25 = some a25 := by kernel_rfl
theorem tf31 : trFn Try.prog G md own 31 = some a31 := by kernel_rfl
theorem tf32 : trFn Try.prog G md own 32 = some a32 := by kernel_rfl
theorem tf33 : trFn Try.prog G md own 33 = some a33 := by kernel_rfl
theorem tf34 : trFn Try.prog G md own 34 = some a34 := by kernel_rfl
theorem tf35 : trFn Try.prog G md own 35 = some a35 := by kernel_rfl
theorem tf36 : trFn Try.prog G md own 36 = some a36 := by kernel_rfl
theorem tf37 : trFn Try.prog G md own 37 = some a37 := by kernel_rfl
theorem tf38 : trFn Try.prog G md own 38 = some a38 := by kernel_rfl
theorem tf39 : trFn Try.prog G md own 39 = some a39 := by kernel_rfl
theorem tf40 : trFn Try.prog G md own 40 = some a40 := by kernel_rfl
theorem tf42 : trFn Try.prog G md own 42 = some a42 := by kernel_rfl
theorem tf43 : trFn Try.prog G md own 43 = some a43 := by kernel_rfl
theorem tf44 : trFn Try.prog G md own 44 = some a44 := by kernel_rfl
theorem tf45 : trFn Try.prog G md own 45 = some a45 := by kernel_rfl
theorem tf48 : trFn Try.prog G md own 48 = some a48 := by kernel_rfl
theorem tf49 : trFn Try.prog G md own 49 = some a49 := by kernel_rfl
theorem tf50 : trFn Try.prog G md own 50 = some a50 := by kernel_rfl
theorem tf51 : trFn Try.prog G md own 51 = some a51 := by kernel_rfl
theorem tf52 : trFn Try.prog G md own 52 = some a52 := by kernel_rfl
theorem tf53 : trFn Try.prog G md own 53 = some a53 := by kernel_rfl
theorem tf54 : trFn Try.prog G md own 54 = some a54 := by kernel_rfl
theorem tf55 : trFn Try.prog G md own 55 = some a55 := by kernel_rfl
theorem tf56 : trFn Try.prog G md own 56 = some a56 := by kernel_rfl
theorem tf57 : trFn Try.prog G md own 57 = some a57 := by kernel_rfl
theorem tf58 : trFn Try.prog G md own 58 = some a58 := by kernel_rfl
theorem tf59 : trFn Try.prog G md own 59 = some a59 := by kernel_rfl
theorem tf60 : trFn Try.prog G md own 60 = some a60 := by kernel_rfl
theorem tf61 : trFn Try.prog G md own 61 = some a61 := by kernel_rfl
theorem tf66 : trFn Try.prog G md own 66 = some a66 := by kernel_rfl
theorem tf67 : trFn Try.prog G md own 67 = some a67 := by kernel_rfl
theorem tf68 : trFn Try.prog G md own 68 = some a68 := by kernel_rfl
theorem tf69 : trFn Try.prog G md own 69 = some a69 := by kernel_rfl
theorem tf70 : trFn Try.prog G md own 70 = some a70 := by kernel_rfl
theorem tf71 : trFn Try.prog G md own 71 = some a71 := by kernel_rfl
theorem tf72 : trFn Try.prog G md own 72 = some a72 := by kernel_rfl
theorem tf73 : trFn Try.prog G md own 73 = some a73 := by kernel_rfl
theorem tf74 : trFn Try.prog G md own 74 = some a74 := by kernel_rfl
theorem tf75 : trFn Try.prog G md own 75 = some a75 := by kernel_rfl
theorem tf76 : trFn Try.prog G md own 76 = some a76 := by kernel_rfl
theorem tf77 : trFn Try.prog G md own 77 = some a77 := by kernel_rfl
theorem tf78 : trFn Try.prog G md own 78 = some a78 := by kernel_rfl
theorem tf79 : trFn Try.prog G md own 79 = some a79 := by kernel_rfl
theorem tf85 : trFn Try.prog G md own 85 = some a85 := by kernel_rfl
theorem tf89 : trFn Try.prog G md own 89 = some a89 := by kernel_rfl
theorem tf90 : trFn Try.prog G md own 90 = some a90 := by kernel_rfl
theorem tf91 : trFn Try.prog G md own 91 = some a91 := by kernel_rfl
theorem tf92 : trFn Try.prog G md own 92 = some a92 := by kernel_rfl
theorem tf93 : trFn Try.prog G md own 93 = some a93 := by kernel_rfl
theorem tf94 : trFn Try.prog G md own 94 = some a94 := by kernel_rfl
theorem tf95 : trFn Try.prog G md own 95 = some a95 := by kernel_rfl
theorem tf96 : trFn Try.prog G md own 96 = some a96 := by kernel_rfl
theorem tf97 : trFn Try.prog G md own 97 = some a97 := by kernel_rfl
theorem tf98 : trFn Try.prog G md own 98 = some a98 := by kernel_rfl
theorem tf99 : trFn Try.prog G md own 99 = some a99 := by kernel_rfl
theorem tf101 : trFn Try.prog G md own 101 = some a101 := by kernel_rfl
theorem tf102 : trFn Try.prog G md own 102 = some a102 := by kernel_rfl
theorem tf105 : trFn Try.prog G md own 105 = some a105 := by kernel_rfl
theorem tf106 : trFn Try.prog G md own 106 = some a106 := by kernel_rfl
theorem tf107 : trFn Try.prog G md own 107 = some a107 := by kernel_rfl
theorem tf108 : trFn Try.prog G md own 108 = some a108 := by kernel_rfl
theorem tf109 : trFn Try.prog G md own 109 = some a109 := by kernel_rfl
theorem tf110 : trFn Try.prog G md own 110 = some a110 := by kernel_rfl
theorem tf111 : trFn Try.prog G md own 111 = some a111 := by kernel_rfl
theorem tf112 : trFn Try.prog G md own 112 = some a112 := by kernel_rfl
theorem tf113 : trFn Try.prog G md own 113 = some a113 := by kernel_rfl
theorem tf114 : trFn Try.prog G md own 114 = some a114 := by kernel_rfl
theorem tf115 : trFn Try.prog G md own 115 = some a115 := by kernel_rfl
theorem tf117 : trFn Try.prog G md own 117 = some a117 := by kernel_rfl
theorem tf118 : trFn Try.prog G md own 118 = some a118 := by kernel_rfl
theorem tf119 : trFn Try.prog G md own 119 = some a119 := by kernel_rfl
theorem tf120 : trFn Try.prog G md own 120 = some a120 := by kernel_rfl
theorem tf121 : trFn Try.prog G md own 121 = some a121 := by kernel_rfl
noncomputable def C : Cx := ⟨Try.prog, G, md, own, ft⟩
theorem ft_ok (f : FuncId) (fn : AFn) (h : ft f = some fn) : fn.md = md f ∧ trFn Try.prog G md own f = some fn := by
  unfold ft at h
  split at h
  · cases h; exact ⟨rfl, tf7⟩
  · cases h; exact ⟨rfl, tf11⟩
  · cases h; exact ⟨rfl, tf13⟩
  · cases h; exact ⟨rfl, tf14⟩
  · cases h; exact ⟨rfl, tf17⟩
  · cases h; exact ⟨rfl, tf19⟩
  · cases h; exact ⟨rfl, tf20⟩
  · cases h; exact ⟨rfl, tf23⟩
  · cases h; exact ⟨rfl, tf24⟩
  · cases h; exact ⟨rfl, tf25⟩
  · cases h; exact ⟨rfl, tf31⟩
  · cases h; exact ⟨rfl, tf32⟩
  · cases h; exact ⟨rfl, tf33⟩
  · cases h; exact ⟨rfl, tf34⟩
  · cases h; exact ⟨rfl, tf35⟩
  · cases h; exact ⟨rfl, tf36⟩
  · cases h; exact ⟨rfl, tf37⟩
  · cases h; exact ⟨rfl, tf38⟩
  · cases h; exact ⟨rfl, tf39⟩
  · cases h; exact ⟨rfl, tf40⟩
  · cases h; exact ⟨rfl, tf42⟩
  · cases h; exact ⟨rfl, tf43⟩
  · cases h; exact ⟨rfl, tf44⟩
  · cases h; exact ⟨rfl, tf45⟩
  · cases h; exact ⟨rfl, tf48⟩
  · cases h; exact ⟨rfl, tf49⟩
  · cases h; exact ⟨rfl, tf50⟩
  · cases h; exact ⟨rfl, tf51⟩
  · cases h; exact ⟨rfl, tf52⟩
  · cases h; exact ⟨rfl, tf53⟩
  · cases h; exact ⟨rfl, tf54⟩
  · cases h; exact ⟨rfl, tf55⟩
  · cases h; exact ⟨rfl, tf56⟩
  · cases h; exact ⟨rfl, tf57⟩
  · cases h; exact ⟨rfl, tf58⟩
  · cases h; exact ⟨rfl, tf59⟩
  · cases h; exact ⟨rfl, tf60⟩
  · cases h; exact ⟨rfl, tf61⟩
  · cases h; exact ⟨rfl, tf66⟩
  · cases h; exact ⟨rfl, tf67⟩
  · cases h; exact ⟨rfl, tf68⟩
  · cases h; exact ⟨rfl, tf69⟩
  · cases h; exact ⟨rfl, tf70⟩
  · cases h; exact ⟨rfl, tf71⟩
  · cases h; exact ⟨rfl, tf72⟩
  · cases h; exact ⟨rfl, tf73⟩
  · cases h; exact ⟨rfl, tf74⟩
  · cases h; exact ⟨rfl, tf75⟩
  · cases h; exact ⟨rfl, tf76⟩
  · cases h; exact ⟨rfl, tf77⟩
  · cases h; exact ⟨rfl, tf78⟩
  · cases h; exact ⟨rfl, tf79⟩
  · cases h; exact ⟨rfl, tf85⟩
  · cases h; exact ⟨rfl, tf89⟩
  · cases h; exact ⟨rfl, tf90⟩
  · cases h; exact ⟨rfl, tf91⟩
  · cases h; exact ⟨rfl, tf92⟩
  · cases h; exact ⟨rfl, tf93⟩
  · cases h; exact ⟨rfl, tf94⟩
  · cases h; exact ⟨rfl, tf95⟩
  · cases h; exact ⟨rfl, tf96⟩
  · cases h; exact ⟨rfl, tf97⟩
  · cases h; exact ⟨rfl, tf98⟩
  · cases h; exact ⟨rfl, tf99⟩
  · cases h; exact ⟨rfl, tf101⟩
  · cases h; exact ⟨rfl, tf102⟩
  · cases h; exact ⟨rfl, tf105⟩
  · cases h; exact ⟨rfl, tf106⟩
  · cases h; exact ⟨rfl, tf107⟩
  · cases h; exact ⟨rfl, tf108⟩
  · cases h; exact ⟨rfl, tf109⟩
  · cases h; exact ⟨rfl, tf110⟩
  · cases h; exact ⟨rfl, tf111⟩
  · cases h; exact ⟨rfl, tf112⟩
  · cases h; exact ⟨rfl, tf113⟩
  · cases h; exact ⟨rfl, tf114⟩
  · cases h; exact ⟨rfl, tf115⟩
  · cases h; exact ⟨rfl, tf117⟩
  · cases h; exact ⟨rfl, tf118⟩
  · cases h; exact ⟨rfl, tf119⟩
  · cases h; exact ⟨rfl, tf120⟩
  · cases h; exact ⟨rfl, tf121⟩
  · cases h
theorem glob_ok (g : Nat) (e : AV) (h : G g = some e) : hot dep (.pv e 0) = false ∧ ∀ m, snap m dep (.pv e 0) = .pv e 0 := by
  cases h
theorem C_ok : C.OK where
  glob := glob_ok
  md := fun f fn h => (ft_ok f fn h).1
  fns := fun f fn h => (ft_ok f fn h).2
  names := fun f fn F _ hF => by
    have : (Try.prog.funcs.toList.all fun F => !(F.name == "runtime.NumGoroutine")) = true := by kernel_rfl
    have := List.all_eq_true.1 this F (by rw [← Array.getElem?_toList] at hF; exact List.mem_of_getElem? hF)
    simpa using this
  mixed := by kernel_rfl
end Go.Ab.T
end
