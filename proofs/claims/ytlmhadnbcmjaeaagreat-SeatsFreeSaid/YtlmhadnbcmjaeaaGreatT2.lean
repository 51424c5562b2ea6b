/-
  A part of the proofs over this seat.
  (The texts KqOK, one behind the other.)
-/
import Derived.Test.YtlmhadnbcmjaeaaGreatT1
import Derived.Test.YtlmhadnbcmjaeaaGreatA4
import Derived.Test.YtlmhadnbcmjaeaaGreatProg
import Derived.KernelRfl
set_option linter.unusedSimpArgs false
set_option linter.unusedVariables false
set_option linter.unusedSectionVars false
section
namespace Go.Ab.T
open Go.Proofs
set_option maxRecDepth 100000
def G : Nat → Option AV
  | _ => none
def md : FuncId → Md
  | 50 | 70 => .o
  | 54 | 56 | 57 | 31 | 33 | 36 | 37 | 40 | 42 | 52 | 53 | 58 | 60 | 71 | 75 | 76 | 77 | 78 | 79 | 80 | 81 | 82 | 83 | 84 | 85 | 87 | 88 | 97 | 99 | 100 | 102 | 103 | 104 | 105 | 106 | 107 | 108 | 109 | 110 | 111 | 112 | 113 | 114 | 115 | 116 | 117 => .r
  | _ => .v
def own : FuncId → Ow
  | 50 => ⟨true, [], [], []⟩
  | 53 => ⟨false, [], [], [5, 14, 15, 16, 17, 18, 19, 20, 21, 22, 23, 24, 25, 26, 27, 28, 29, 30, 31, 32, 33, 34, 35, 36, 37]⟩
  | 54 => ⟨true, [], [], []⟩
  | 70 => ⟨true, [], [], [3, 4, 5, 6, 7]⟩
  | 77 => ⟨true, [], [], []⟩
  | _ => ⟨false, [], [], []⟩
theorem tf4 : trFn Tryz.prog G md own 4 = some a4 := by kernel_rfl
theorem tf5 : trFn Tryz.prog G md own 5 = some a5 := by kernel_rfl
theorem tf6 : trFn Tryz.prog G md own 6 = some a6 := by kernel_rfl
theorem tf7 : trFn Tryz.prog G md own 7 = some a7 := by kernel_rfl
theorem tf8 : trFn Tryz.prog G md own 8 = some a8 := by kernel_rfl
theorem tf9 : trFn Tryz.prog G md own 9 = some a9 := by kernel_rfl
theorem tf10 : trFn Tryz.prog G md own 10 = some a10 := by kernel_rfl
theorem tf15 : trFn Tryz.prog G md own 15 = some a15 := by kernel_rfl
theorem tf17 : trFn Tryz.prog G md own 17 = some a17 := by kernel_rfl
theorem tf19 : trFn Tryz.prog G md own 19 = some a19 := by kernel_rfl
theorem tf20 : trFn Tryz.prog G md own 20 = some a20 := by kernel_rfl
theorem tf21 : trFn Tryz.prog G md own 21 = some a21 := by kernel_rfl
theorem tf22 : trFn Tryz.prog G md own 22 = some a22 := by kernel_rfl
theorem tf23 : trFn Tryz.prog G md own 23 = some a23 := by kernel_rfl
theorem tf24 : trFn Tryz.prog G md own 24 = some a24 := by kernel_rfl
theorem tf25 : trFn Tryz.prog G md own 25 = some a25 := by kernel_rfl
theorem tf26 : trFn Tryz.prog G md own 26 = some a26 := by kernel_rfl
theorem tf27 : trFn Tryz.prog G md own 27 = some a27 := by kernel_rfl
theorem tf28 : trFn Tryz.prog G md own 28 = some a28 := by kernel_rfl
theorem tf29 : trFn Tryz.prog G md own 29 = some a29 := by kernel_rfl
theorem tf30 : trFn Tryz.prog G md own 30 = some a30 := by kernel_rfl
theorem tf31 : trFn Tryz.prog G md own 31 = some a31 := by kernel_rfl
theorem tf32 : trFn Tryz.prog G md own 32 = some a32 := by kernel_rfl
theorem tf33 : trFn Tryz.prog G md own 33 = some a33 := by kernel_rfl
theorem tf34 : trFn Tryz.prog G md own 34 = some a34 := by kernel_rfl
theorem tf35 : trFn Tryz.prog G md own 35 = some a35 := by kernel_rfl
theorem tf36 : trFn Tryz.prog G md own 36 = some a36 := by kernel_rfl
theorem tf37 : trFn Tryz.prog G md own 37 = some a37 := by kernel_rfl
theorem tf39 : trFn Tryz.prog G md own 39 = some a39 := by kernel_rfl
theorem tf40 : trFn Tryz.prog G md own 40 = some a40 := by kernel_rfl
theorem tf41 : trFn Tryz.prog G md own 41 = some a41 := by kernel_rfl
theorem tf42 : trFn Tryz.prog G md own 42 = some a42 := by kernel_rfl
theorem tf43 : trFn Tryz.prog G md own 43 = some a43 := by kernel_rfl
theorem tf44 : trFn Tryz.prog G md own 44 = some a44 := by kernel_rfl
theorem tf45 : trFn Tryz.prog G md own 45 = some a45 := by kernel_rfl
theorem tf46 : trFn Tryz.prog G md own 46 = some a46 := by kernel_rfl
theorem tf47 : trFn Tryz.prog G md own 47 = some a47 := by kernel_rfl
theorem tf48 : trFn Tryz.prog G md own 48 = some a48 := by kernel_rfl
theorem tf49 : trFn Tryz.prog G md own 49 = some a49 := by kernel_rfl
theorem tf50 : trFn Tryz.prog G md own 50 = some a50 := by kernel_rfl
theorem tf51 : trFn Tryz.prog G md own 51 = some a51 := by kernel_rfl
theorem tf52 : trFn Tryz.prog G md own 52 = some a52 := by kernel_rfl
theorem tf53 : trFn Tryz.prog G md own 53 = some a53 := by kernel_rfl
theorem tf54 : trFn Tryz.prog G md own 54 = some a54 := by kernel_rfl
theorem tf55 : trFn Tryz.prog G md own 55 = some a55 := by kernel_rfl
theorem tf56 : trFn Tryz.prog G md own 56 = some a56 := by kernel_rfl
theorem tf57 : trFn Tryz.prog G md own 57 = some a57 := by kernel_rfl
theorem tf58 : trFn Tryz.prog G md own 58 = some a58 := by kernel_rfl
theorem tf59 : trFn Tryz.prog G md own 59 = some a59 := by kernel_rfl
theorem tf60 : trFn Tryz.prog G md own 60 = some a60 := by kernel_rfl
theorem tf61 : trFn Tryz.prog G md own 61 = some a61 := by kernel_rfl
theorem tf62 : trFn Tryz.prog G md own 62 = some a62 := by kernel_rfl
theorem tf63 : trFn Tryz.prog G md own 63 = some a63 := by kernel_rfl
theorem tf64 : trFn Tryz.prog G md own 64 = some a64 := by kernel_rfl
theorem tf65 : trFn Tryz.prog G md own 65 = some a65 := by kernel_rfl
theorem tf66 : trFn Tryz.prog G md own 66 = some a66 := by kernel_rfl
theorem tf67 : trFn Tryz.prog G md own 67 = some a67 := by kernel_rfl
theorem tf68 : trFn Tryz.prog G md own 68 = some a68 := by kernel_rfl
theorem tf69 : trFn Tryz.prog G md own 69 = some a69 := by kernel_rfl
theorem tf70 : trFn Tryz.prog G md own 70 = some a70 := by kernel_rfl
theorem tf71 : trFn Tryz.prog G md own 71 = some a71 := by kernel_rfl
theorem tf72 : trFn Tryz.prog G md own 72 = some a72 := by kernel_rfl
theorem tf73 : trFn Tryz.prog G md own 73 = some a73 := by kernel_rfl
theorem tf74 : trFn Tryz.prog G md own 74 = some a74 := by kernel_rfl
theorem tf75 : trFn Tryz.prog G md own 75 = some a75 := by kernel_rfl
theorem tf76 : trFn Tryz.prog G md own 76 = some a76 := by kernel_rfl
theorem tf77 : trFn Tryz.prog G md own 77 = some a77 := by kernel_rfl
theorem tf78 : trFn Tryz.prog G md own 78 = some a78 := by kernel_rfl
theorem tf79 : trFn Tryz.prog G md own 79 = some a79 := by kernel_rfl
theorem tf80 : trFn Tryz.prog G md own 80 = some a80 := by kernel_rfl
theorem tf86 : trFn Tryz.prog G md own 86 = some a86 := by kernel_rfl
theorem tf90 : trFn Tryz.prog G md own 90 = some a90 := by kernel_rfl
theorem tf91 : trFn Tryz.prog G md own 91 = some a91 := by kernel_rfl
theorem tf92 : trFn Tryz.prog G md own 92 = some a92 := by kernel_rfl
theorem tf93 : trFn Tryz.prog G md own 93 = some a93 := by kernel_rfl
theorem tf94 : trFn Tryz.prog G md own 94 = some a94 := by kernel_rfl
theorem tf95 : trFn Tryz.prog G md own 95 = some a95 := by kernel_rfl
theorem tf96 : trFn Tryz.prog G md own 96 = some a96 := by kernel_rfl
theorem tf97 : trFn Tryz.prog G md own 97 = some a97 := by kernel_rfl
theorem tf98 : trFn Tryz.prog G md own 98 = some a98 := by kernel_rfl
theorem tf99 : trFn Tryz.prog G md own 99 = some a99 := by kernel_rfl
theorem tf101 : trFn Tryz.prog G md own 101 = some a101 := by kernel_rfl
theorem tf102 : trFn Tryz.prog G md own 102 = some a102 := by kernel_rfl
theorem tf105 : trFn Tryz.prog G md own 105 = some a105 := by kernel_rfl
theorem tf106 : trFn Tryz.prog G md own 106 = some a106 := by kernel_rfl
theorem tf107 : trFn Tryz.prog G md own 107 = some a107 := by kernel_rfl
theorem tf108 : trFn Tryz.prog G md own 108 = some a108 := by kernel_rfl
theorem tf109 : trFn Tryz.prog G md own 109 = some a109 := by kernel_rfl
theorem tf110 : trFn Tryz.prog G md own 110 = some a110 := by kernel_rfl
theorem tf111 : trFn Tryz.prog G md own 111 = some a111 := by kernel_rfl
theorem tf112 : trFn Tryz.prog G md own 112 = some a112 := by kernel_rfl
theorem tf114 : trFn Tryz.prog G md own 114 = some a114 := by kernel_rfl
theorem tf115 : trFn Tryz.prog G md own 115 = some a115 := by kernel_rfl
theorem tf116 : trFn Tryz.prog G md own 116 = some a116 := by kernel_rfl
theorem tf117 : trFn Tryz.prog G md own 117 = some a117 := by kernel_rfl
noncomputable def C : Cx := ⟨Tryz.prog, G, md, own, ft⟩
theorem ft_ok (f : FuncId) (fn : AFn) (h : ft f = some fn) : fn.md = md f ∧ trFn Tryz.prog G md own f = some fn := by
  unfold ft at h
  split at h
  · cases h; exact ⟨rfl, tf4⟩
  · cases h; exact ⟨rfl, tf5⟩
  · cases h; exact ⟨rfl, tf6⟩
  · cases h; exact ⟨rfl, tf7⟩
  · cases h; exact ⟨rfl, tf8⟩
  · cases h; exact ⟨rfl, tf9⟩
  · cases h; exact ⟨rfl, tf10⟩
  · cases h; exact ⟨rfl, tf15⟩
  · cases h; exact ⟨rfl, tf17⟩
  · cases h; exact ⟨rfl, tf19⟩
  · cases h; exact ⟨rfl, tf20⟩
  · cases h; exact ⟨rfl, tf21⟩
  · cases h; exact ⟨rfl, tf22⟩
  · cases h; exact ⟨rfl, tf23⟩
  · cases h; exact ⟨rfl, tf24⟩
  · cases h; exact ⟨rfl, tf25⟩
  · cases h; exact ⟨rfl, tf26⟩
  · cases h; exact ⟨rfl, tf27⟩
  · cases h; exact ⟨rfl, tf28⟩
  · cases h; exact ⟨rfl, tf29⟩
  · cases h; exact ⟨rfl, tf30⟩
  · cases h; exact ⟨rfl, tf31⟩
  · cases h; exact ⟨rfl, tf32⟩
  · cases h; exact ⟨rfl, tf33⟩
  · cases h; exact ⟨rfl, tf34⟩
  · cases h; exact ⟨rfl, tf35⟩
  · cases h; exact ⟨rfl, tf36⟩
  · cases h; exact ⟨rfl, tf37⟩
  · cases h; exact ⟨rfl, tf39⟩
  · cases h; exact ⟨rfl, tf40⟩
  · cases h; exact ⟨rfl, tf41⟩
  · cases h; exact ⟨rfl, tf42⟩
  · cases h; exact ⟨rfl, tf43⟩
  · cases h; exact ⟨rfl, tf44⟩
  · cases h; exact ⟨rfl, tf45⟩
  · cases h; exact ⟨rfl, tf46⟩
  · cases h; exact ⟨rfl, tf47⟩
  · cases h; exact ⟨rfl, tf48⟩
  · cases h; exact ⟨rfl, tf49⟩
  · cases h; exact ⟨rfl, tf50⟩
  · cases h; exact ⟨rfl, tf51⟩
  · cases h; exact ⟨rfl, tf52⟩
  · cases h; exact ⟨rfl, tf53⟩
  · cases h; exact ⟨rfl, tf54⟩
  · cases h; exact ⟨rfl, tf55⟩
  · cases h; exact ⟨rfl, tf56⟩
  · cases h; exact ⟨rfl, tf57⟩
  · cases h; exact ⟨rfl, tf58⟩
  · cases h; exact ⟨rfl, tf59⟩
  · cases h; exact ⟨rfl, tf60⟩
  · cases h; exact ⟨rfl, tf61⟩
  · cases h; exact ⟨rfl, tf62⟩
  · cases h; exact ⟨rfl, tf63⟩
  · cases h; exact ⟨rfl, tf64⟩
  · cases h; exact ⟨rfl, tf65⟩
  · cases h; exact ⟨rfl, tf66⟩
  · cases h; exact ⟨rfl, tf67⟩
  · cases h; exact ⟨rfl, tf68⟩
  · cases h; exact ⟨rfl, tf69⟩
  · cases h; exact ⟨rfl, tf70⟩
  · cases h; exact ⟨rfl, tf71⟩
  · cases h; exact ⟨rfl, tf72⟩
  · cases h; exact ⟨rfl, tf73⟩
  · cases h; exact ⟨rfl, tf74⟩
  · cases h; exact ⟨rfl, tf75⟩
  · cases h; exact ⟨rfl, tf76⟩
  · cases h; exact ⟨rfl, tf77⟩
  · cases h; exact ⟨rfl, tf78⟩
  · cases h; exact ⟨rfl, tf79⟩
  · cases h; exact ⟨rfl, tf80⟩
  · cases h; exact ⟨rfl, tf86⟩
  · cases h; exact ⟨rfl, tf90⟩
  · cases h; exact ⟨rfl, tf91⟩
  · cases h; exact ⟨rfl, tf92⟩
  · cases h; exact ⟨rfl, tf93⟩
  · cases h; exact ⟨rfl, tf94⟩
  · cases h; exact ⟨rfl, tf95⟩
  · cases h; exact ⟨rfl, tf96⟩
  · cases h; exact ⟨rfl, tf97⟩
  · cases h; exact ⟨rfl, tf98⟩
  · cases h; exact ⟨rfl, tf99⟩
  · cases h; exact ⟨rfl, tf101⟩
  · cases h; exact ⟨rfl, tf102⟩
  · cases h; exact ⟨rfl, tf105⟩
  · cases h; exact ⟨rfl, tf106⟩
  · cases h; exact ⟨rfl, tf107⟩
  · cases h; exact ⟨rfl, tf108⟩
  · cases h; exact ⟨rfl, tf109⟩
  · cases h; exact ⟨rfl, tf110⟩
  · cases h; exact ⟨rfl, tf111⟩
  · cases h; exact ⟨rfl, tf112⟩
  · cases h; exact ⟨rfl, tf114⟩
  · cases h; exact ⟨rfl, tf115⟩
  · cases h; exact ⟨rfl, tf116⟩
  · cases h; exact ⟨rfl, tf117⟩
  · cases h
theorem glob_ok (g : Nat) (e : AV) (h : G g = some e) : hot dep (.pv e 0) = false ∧ ∀ m, snap m dep (.pv e 0) = .pv e 0 := by
  cases h
theorem C_ok : C.OK where
  glob := glob_ok
  md := fun f fn h => (ft_ok f fn h).1
  fns := fun f fn h => (ft_ok f fn h).2
  names := fun f fn F _ hF => by
    have : (Tryz.prog.funcs.toList.all fun F => !(F.name == "runtime.NumGoroutine")) = true := by kernel_rfl
    have := List.all_eq_true.1 this F (by rw [← Array.getElem?_toList] at hF; exact List.mem_of_getElem? hF)
    simpa using this
  mixed := by kernel_rfl
end Go.Ab.T
end
