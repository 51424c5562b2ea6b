/-
 A part of the proofs over this seat.
 (The texts KxOK, one behind the other.)
-/
import Derived.Test.YtnikcghmcaegbaaGreatT1
import Derived.Test.YtnikcghmcaegbaaGreatA4
import Derived.Test.YtnikcghmcaegbaaGreatProg
import Derived.KernelRfl
set_option linter.unusedSimpArgs false
set_option linter.unusedVariables false
set_option linter.unusedSectionVars false
section
namespace Go.Ab.T
open Go.Proofs
set_option maxRecDepth 100000
def G : Nat → Option AV
 | _ => none
def md : FuncId → Md
 | 16 | 17 => .o
 | 166 | 176 | 72 | 83 | 113 | 121 | 142 | 143 | 144 | 145 | 146 | 147 | 149 | 150 | 153 | 154 | 155 | 156 | 157 | 158 | 159 | 160 | 168 | 170 | 171 | 172 | 173 | 174 | 175 | 177 | 178 | 86 | 122 | 126 | 124 | 105 | 116 | 59 | 127 | 128 | 130 => .r
 | _ => .v
def own : FuncId → Ow
 | 3 => ⟨false, [16, 17], []⟩
 | 5 => ⟨false, [], [6]⟩
 | 8 => ⟨false, [], [23]⟩
 | 9 => ⟨false, [], [23]⟩
 | 10 => ⟨false, [16], []⟩
 | 11 => ⟨false, [16], []⟩
 | 12 => ⟨false, [16], []⟩
 | 13 => ⟨false, [16], []⟩
 | 16 => ⟨true, [], []⟩
 | 17 => ⟨true, [], []⟩
 | 30 => ⟨false, [16, 17], []⟩
 | 34 => ⟨true, [], []⟩
 | 39 => ⟨true, [], []⟩
 | 41 => ⟨false, [16], []⟩
 | 74 => ⟨false, [17], []⟩
 | 112 => ⟨true, [], []⟩
 | 176 => ⟨true, [], []⟩
 | _ => ⟨false, [], []⟩
theorem tf4 : trFn Tryz.prog G md own 4 = some a4 := by kernel_rfl
theorem tf5 : trFn Tryz.prog G md own 5 = some a5 := by kernel_rfl
theorem tf6 : trFn Tryz.prog G md own 6 = some a6 := by kernel_rfl
theorem tf7 : trFn Tryz.prog G md own 7 = some a7 := by kernel_rfl
theorem tf12 : trFn Tryz.prog G md own 12 = some a12 := by kernel_rfl
theorem tf14 : trFn Tryz.prog G md own 14 = some a14 := by kernel_rfl
theorem tf15 : trFn Tryz.prog G md own 15 = some a15 := by kernel_rfl
theorem tf16 : trFn Tryz.prog G md own 16 = some a16 := by kernel_rfl
theorem tf17 : trFn Tryz.prog G md own 17 = some a17 := by kernel_rfl
theorem tf18 : trFn Tryz.prog G md own 18 = some a18 := by kernel_rfl
theorem tf21 : trFn Tryz.prog G md own 21 = some a21 := by kernel_rfl
theorem tf22 : trFn Tryz.prog G md own 22 = some a22 := by kernel_rfl
theorem tf23 : trFn Tryz.prog G md own 23 = some a23 := by kernel_rfl
theorem tf24 : trFn Tryz.prog G md own 24 = some a24 := by kernel_rfl
theorem tf25 : trFn Tryz.prog G md own 25 = some a25 := by kernel_rfl
theorem tf26 : trFn Tryz.prog G md own 26 = some a26 := by kernel_rfl
theorem tf27 : trFn Tryz.prog G md own 27 = some a27 := by kernel_rfl
theorem tf28 : trFn Tryz.prog G md own 28 = some a28 := by kernel_rfl
theorem tf29 : trFn Tryz.prog G md own 29 = some a29 := by kernel_rfl
theorem tf30 : trFn Tryz.prog G md own 30 = some a30 := by kernel_rfl
theorem tf31 : trFn Tryz.prog G md own 31 = some a31 := by kernel_rfl
theorem tf32 : trFn Tryz.prog G md own 32 = some a32 := by kernel_rfl
theorem tf33 : trFn Tryz.prog G md own 33 = some a33 := by kernel_rfl
theorem tf35 : trFn Tryz.prog G md own 35 = some a35 := by kernel_rfl
theorem tf36 : trFn Tryz.prog G md own 36 = some a36 := by kernel_rfl
theorem tf37 : trFn Tryz.prog G md own 37 = some a37 := by kernel_rfl
theorem tf38 : trFn Tryz.prog G md own 38 = some a38 := by kernel_rfl
theorem tf39 : trFn Tryz.prog G md own 39 = some a39 := by kernel_rfl
theorem tf40 : trFn Tryz.prog G md own 40 = some a40 := by kernel_rfl
theorem tf42 : trFn Tryz.prog G md own 42 = some a42 := by kernel_rfl
theorem tf43 : trFn Tryz.prog G md own 43 = some a43 := by kernel_rfl
theorem tf44 : trFn Tryz.prog G md own 44 = some a44 := by kernel_rfl
theorem tf50 : trFn Tryz.prog G md own 50 = some a50 := by kernel_rfl
theorem tf54 : trFn Tryz.prog G md own 54 = some a54 := by kernel_rfl
theorem tf55 : trFn Tryz.prog G md own 55 = some a55 := by kernel_rfl
theorem tf56 : trFn Tryz.prog G md own 56 = some a56 := by kernel_rfl
theorem tf57 : trFn Tryz.prog G md own 57 = some a57 := by kernel_rfl
theorem tf58 : trFn Tryz.prog G md own 58 = some a58 := by kernel_rfl
theorem tf59 : trFn Tryz.prog G md own 59 = some a59 := by kernel_rfl
theorem tf60 : trFn Tryz.prog G md own 60 = some a60 := by kernel_rfl
theorem tf61 : trFn Tryz.prog G md own 61 = some a61 := by kernel_rfl
theorem tf62 : trFn Tryz.prog G md own 62 = some a62 := by kernel_rfl
theorem tf63 : trFn Tryz.prog G md own 63 = some a63 := by kernel_rfl
theorem tf64 : trFn Tryz.prog G md own 64 = some a64 := by kernel_rfl
theorem tf65 : trFn Tryz.prog G md own 65 = some a65 := by kernel_rfl
theorem tf66 : trFn Tryz.prog G md own 66 = some a66 := by kernel_rfl
theorem tf67 : trFn Tryz.prog G md own 67 = some a67 := by kernel_rfl
theorem tf68 : trFn Tryz.prog G md own 68 = some a68 := by kernel_rfl
theorem tf69 : trFn Tryz.prog G md own 69 = some a69 := by kernel_rfl
theorem tf70 : trFn Tryz.prog G md own 70 = some a70 := by kernel_rfl
theorem tf71 : trFn Tryz.prog G md own 71 = some a71 := by kernel_rfl
theorem tf72 : trFn Tryz.prog G md own 72 = some a72 := by kernel_rfl
theorem tf73 : trFn Tryz.prog G md own 73 = some a73 := by kernel_rfl
theorem tf75 : trFn Tryz.prog G md own 75 = some a75 := by kernel_rfl
theorem tf76 : trFn Tryz.prog G md own 76 = some a76 := by kernel_rfl
theorem tf77 : trFn Tryz.prog G md own 77 = some a77 := by kernel_rfl
theorem tf78 : trFn Tryz.prog G md own 78 = some a78 := by kernel_rfl
theorem tf79 : trFn Tryz.prog G md own 79 = some a79 := by kernel_rfl
theorem tf81 : trFn Tryz.prog G md own 81 = some a81 := by kernel_rfl
theorem tf82 : trFn Tryz.prog G md own 82 = some a82 := by kernel_rfl
theorem tf83 : trFn Tryz.prog G md own 83 = some a83 := by kernel_rfl
theorem tf86 : trFn Tryz.prog G md own 86 = some a86 := by kernel_rfl
theorem tf93 : trFn Tryz.prog G md own 93 = some a93 := by kernel_rfl
theorem tf94 : trFn Tryz.prog G md own 94 = some a94 := by kernel_rfl
theorem tf95 : trFn Tryz.prog G md own 95 = some a95 := by kernel_rfl
theorem tf96 : trFn Tryz.prog G md own 96 = some a96 := by kernel_rfl
theorem tf97 : trFn Tryz.prog G md own 97 = some a97 := by kernel_rfl
theorem tf98 : trFn Tryz.prog G md own 98 = some a98 := by kernel_rfl
theorem tf99 : trFn Tryz.prog G md own 99 = some a99 := by kernel_rfl
theorem tf100 : trFn Tryz.prog G md own 100 = some a100 := by kernel_rfl
theorem tf101 : trFn Tryz.prog G md own 101 = some a101 := by kernel_rfl
theorem tf102 : trFn Tryz.prog G md own 102 = some a102 := by kernel_rfl
theorem tf103 : trFn Tryz.prog G md own 103 = some a103 := by kernel_rfl
theorem tf104 : trFn Tryz.prog G md own 104 = some a104 := by kernel_rfl
theorem tf105 : trFn Tryz.prog G md own 105 = some a105 := by kernel_rfl
theorem tf106 : trFn Tryz.prog G md own 106 = some a106 := by kernel_rfl
theorem tf107 : trFn Tryz.prog G md own 107 = some a107 := by kernel_rfl
theorem tf108 : trFn Tryz.prog G md own 108 = some a108 := by kernel_rfl
theorem tf109 : trFn Tryz.prog G md own 109 = some a109 := by kernel_rfl
theorem tf110 : trFn Tryz.prog G md own 110 = some a110 := by kernel_rfl
theorem tf111 : trFn Tryz.prog G md own 111 = some a111 := by kernel_rfl
theorem tf112 : trFn Tryz.prog G md own 112 = some a112 := by kernel_rfl
theorem tf113 : trFn Tryz.prog G md own 113 = some a113 := by kernel_rfl
theorem tf114 : trFn Tryz.prog G md own 114 = some a114 := by kernel_rfl
theorem tf115 : trFn Tryz.prog G md own 115 = some a115 := by kernel_rfl
theorem tf116 : trFn Tryz.prog G md own 116 = some a116 := by kernel_rfl
theorem tf117 : trFn Tryz.prog G md own 117 = some a117 := by kernel_rfl
theorem tf118 : trFn Tryz.prog G md own 118 = some a118 := by kernel_rfl
theorem tf119 : trFn Tryz.prog G md own 119 = some a119 := by kernel_rfl
theorem tf120 : trFn Tryz.prog G md own 120 = some a120 := by kernel_rfl
theorem tf121 : trFn Tryz.prog G md own 121 = some a121 := by kernel_rfl
theorem tf122 : trFn Tryz.prog G md own 122 = some a122 := by kernel_rfl
theorem tf123 : trFn Tryz.prog G md own 123 = some a123 := by kernel_rfl
theorem tf124 : trFn Tryz.prog G md own 124 = some a124 := by kernel_rfl
theorem tf125 : trFn Tryz.prog G md own 125 = some a125 := by kernel_rfl
theorem tf126 : trFn Tryz.prog G md own 126 = some a126 := by kernel_rfl
theorem tf127 : trFn Tryz.prog G md own 127 = some a127 := by kernel_rfl
theorem tf128 : trFn Tryz.prog G md own 128 = some a128 := by kernel_rfl
theorem tf129 : trFn Tryz.prog G md own 129 = some a129 := by kernel_rfl
theorem tf130 : trFn Tryz.prog G md own 130 = some a130 := by kernel_rfl
theorem tf131 : trFn Tryz.prog G md own 131 = some a131 := by kernel_rfl
theorem tf132 : trFn Tryz.prog G md own 132 = some a132 := by kernel_rfl
theorem tf133 : trFn Tryz.prog G md own 133 = some a133 := by kernel_rfl
theorem tf134 : trFn Tryz.prog G md own 134 = some a134 := by kernel_rfl
theorem tf135 : trFn Tryz.prog G md own 135 = some a135 := by kernel_rfl
theorem tf136 : trFn Tryz.prog G md own 136 = some a136 := by kernel_rfl
theorem tf137 : trFn Tryz.prog G md own 137 = some a137 := by kernel_rfl
theorem tf138 : trFn Tryz.prog G md own 138 = some a138 := by kernel_rfl
theorem tf139 : trFn Tryz.prog G md own 139 = some a139 := by kernel_rfl
theorem tf140 : trFn Tryz.prog G md own 140 = some a140 := by kernel_rfl
theorem tf141 : trFn Tryz.prog G md own 141 = some a141 := by kernel_rfl
theorem tf142 : trFn Tryz.prog G md own 142 = some a142 := by kernel_rfl
theorem tf148 : trFn Tryz.prog G md own 148 = some a148 := by kernel_rfl
theorem tf151 : trFn Tryz.prog G md own 151 = some a151 := by kernel_rfl
theorem tf152 : trFn Tryz.prog G md own 152 = some a152 := by kernel_rfl
theorem tf153 : trFn Tryz.prog G md own 153 = some a153 := by kernel_rfl
theorem tf154 : trFn Tryz.prog G md own 154 = some a154 := by kernel_rfl
theorem tf155 : trFn Tryz.prog G md own 155 = some a155 := by kernel_rfl
theorem tf156 : trFn Tryz.prog G md own 156 = some a156 := by kernel_rfl
theorem tf157 : trFn Tryz.prog G md own 157 = some a157 := by kernel_rfl
theorem tf158 : trFn Tryz.prog G md own 158 = some a158 := by kernel_rfl
theorem tf159 : trFn Tryz.prog G md own 159 = some a159 := by kernel_rfl
theorem tf160 : trFn Tryz.prog G md own 160 = some a160 := by kernel_rfl
theorem tf161 : trFn Tryz.prog G md own 161 = some a161 := by kernel_rfl
theorem tf162 : trFn Tryz.prog G md own 162 = some a162 := by kernel_rfl
theorem tf163 : trFn Tryz.prog G md own 163 = some a163 := by kernel_rfl
theorem tf164 : trFn Tryz.prog G md own 164 = some a164 := by kernel_rfl
theorem tf165 : trFn Tryz.prog G md own 165 = some a165 := by kernel_rfl
theorem tf166 : trFn Tryz.prog G md own 166 = some a166 := by kernel_rfl
theorem tf167 : trFn Tryz.prog G md own 167 = some a167 := by kernel_rfl
theorem tf169 : trFn Tryz.prog G md own 169 = some a169 := by kernel_rfl
theorem tf170 : trFn Tryz.prog G md own 170 = some a170 := by kernel_rfl
theorem tf173 : trFn Tryz.prog G md own 173 = some a173 := by kernel_rfl
theorem tf174 : trFn Tryz.prog G md own 174 = some a174 := by kernel_rfl
theorem tf175 : trFn Tryz.prog G md own 175 = some a175 := by kernel_rfl
theorem tf176 : trFn Tryz.prog G md own 176 = some a176 := by kernel_rfl
theorem tf178 : trFn Tryz.prog G md own 178 = some a178 := by kernel_rfl
noncomputable def C : Cx := ⟨Tryz.prog, G, md, own, ft⟩
theorem ft_ok (f : FuncId) (fn : AFn) (h : ft f = some fn) : fn.md = md f ∧ trFn Tryz.prog G md own f = some fn := by
 unfold ft at h
 split at h
 ·cases h; exact ⟨rfl, tf4⟩
 ·cases h; exact ⟨rfl, tf5⟩
 ·cases h; exact ⟨rfl, tf6⟩
 ·cases h; exact ⟨rfl, tf7⟩
 ·cases h; exact ⟨rfl, tf12⟩
 ·cases h; exact ⟨rfl, tf14⟩
 ·cases h; exact ⟨rfl, tf15⟩
 ·cases h; exact ⟨rfl, tf16⟩
 ·cases h; exact ⟨rfl, tf17⟩
 ·cases h; exact ⟨rfl, tf18⟩
 ·cases h; exact ⟨rfl, tf21⟩
 ·cases h; exact ⟨rfl, tf22⟩
 ·cases h; exact ⟨rfl, tf23⟩
 ·cases h; exact ⟨rfl, tf24⟩
 ·cases h; exact ⟨rfl, tf25⟩
 ·cases h; exact ⟨rfl, tf26⟩
 ·cases h; exact ⟨rfl, tf27⟩
 ·cases h; exact ⟨rfl, tf28⟩
 ·cases h; exact ⟨rfl, tf29⟩
 ·cases h; exact ⟨rfl, tf30⟩
 ·cases h; exact ⟨rfl, tf31⟩
 ·cases h; exact ⟨rfl, tf32⟩
 ·cases h; exact ⟨rfl, tf33⟩
 ·cases h; exact ⟨rfl, tf35⟩
 ·cases h; exact ⟨rfl, tf36⟩
 ·cases h; exact ⟨rfl, tf37⟩
 ·cases h; exact ⟨rfl, tf38⟩
 ·cases h; exact ⟨rfl, tf39⟩
 ·cases h; exact ⟨rfl, tf40⟩
 ·cases h; exact ⟨rfl, tf42⟩
 ·cases h; exact ⟨rfl, tf43⟩
 ·cases h; exact ⟨rfl, tf44⟩
 ·cases h; exact ⟨rfl, tf50⟩
 ·cases h; exact ⟨rfl, tf54⟩
 ·cases h; exact ⟨rfl, tf55⟩
 ·cases h; exact ⟨rfl, tf56⟩
 ·cases h; exact ⟨rfl, tf57⟩
 ·cases h; exact ⟨rfl, tf58⟩
 ·cases h; exact ⟨rfl, tf59⟩
 ·cases h; exact ⟨rfl, tf60⟩
 ·cases h; exact ⟨rfl, tf61⟩
 ·cases h; exact ⟨rfl, tf62⟩
 ·cases h; exact ⟨rfl, tf63⟩
 ·cases h; exact ⟨rfl, tf64⟩
 ·cases h; exact ⟨rfl, tf65⟩
 ·cases h; exact ⟨rfl, tf66⟩
 ·cases h; exact ⟨rfl, tf67⟩
 ·cases h; exact ⟨rfl, tf68⟩
 ·cases h; exact ⟨rfl, tf69⟩
 ·cases h; exact ⟨rfl, tf70⟩
 ·cases h; exact ⟨rfl, tf71⟩
 ·cases h; exact ⟨rfl, tf72⟩
 ·cases h; exact ⟨rfl, tf73⟩
 ·cases h; exact ⟨rfl, tf75⟩
 ·cases h; exact ⟨rfl, tf76⟩
 ·cases h; exact ⟨rfl, tf77⟩
 ·cases h; exact ⟨rfl, tf78⟩
 ·cases h; exact ⟨rfl, tf79⟩
 ·cases h; exact ⟨rfl, tf81⟩
 ·cases h; exact ⟨rfl, tf82⟩
 ·cases h; exact ⟨rfl, tf83⟩
 ·cases h; exact ⟨rfl, tf86⟩
 ·cases h; exact ⟨rfl, tf93⟩
 ·cases h; exact ⟨rfl, tf94⟩
 ·cases h; exact ⟨rfl, tf95⟩
 ·cases h; exact ⟨rfl, tf96⟩
 ·cases h; exact ⟨rfl, tf97⟩
 ·cases h; exact ⟨rfl, tf98⟩
 ·cases h; exact ⟨rfl, tf99⟩
 ·cases h; exact ⟨rfl, tf100⟩
 ·cases h; exact ⟨rfl, tf101⟩
 ·cases h; exact ⟨rfl, tf102⟩
 ·cases h; exact ⟨rfl, tf103⟩
 ·cases h; exact ⟨rfl, tf104⟩
 ·cases h; exact ⟨rfl, tf105⟩
 ·cases h; exact ⟨rfl, tf106⟩
 ·cases h; exact ⟨rfl, tf107⟩
 ·cases h; exact ⟨rfl, tf108⟩
 ·cases h; exact ⟨rfl, tf109⟩
 ·cases h; exact ⟨rfl, tf110⟩
 ·cases h; exact ⟨rfl, tf111⟩
 ·cases h; exact ⟨rfl, tf112⟩
 ·cases h; exact ⟨rfl, tf113⟩
 ·cases h; exact ⟨rfl, tf114⟩
 ·cases h; exact ⟨rfl, tf115⟩
 ·cases h; exact ⟨rfl, tf116⟩
 ·cases h; exact ⟨rfl, tf117⟩
 ·cases h; exact ⟨rfl, tf118⟩
 ·cases h; exact ⟨rfl, tf119⟩
 ·cases h; exact ⟨rfl, tf120⟩
 ·cases h; exact ⟨rfl, tf121⟩
 ·cases h; exact ⟨rfl, tf122⟩
 ·cases h; exact ⟨rfl, tf123⟩
 ·cases h; exact ⟨rfl, tf124⟩
 ·cases h; exact ⟨rfl, tf125⟩
 ·cases h; exact ⟨rfl, tf126⟩
 ·cases h; exact ⟨rfl, tf127⟩
 ·cases h; exact ⟨rfl, tf128⟩
 ·cases h; exact ⟨rfl, tf129⟩
 ·cases h; exact ⟨rfl, tf130⟩
 ·cases h; exact ⟨rfl, tf131⟩
 ·cases h; exact ⟨rfl, tf132⟩
 ·cases h; exact ⟨rfl, tf133⟩
 ·cases h; exact ⟨rfl, tf134⟩
 ·cases h; exact ⟨rfl, tf135⟩
 ·cases h; exact ⟨rfl, tf136⟩
 ·cases h; exact ⟨rfl, tf137⟩
 ·cases h; exact ⟨rfl, tf138⟩
 ·cases h; exact ⟨rfl, tf139⟩
 ·cases h; exact ⟨rfl, tf140⟩
 ·cases h; exact ⟨rfl, tf141⟩
 ·cases h; exact ⟨rfl, tf142⟩
 ·cases h; exact ⟨rfl, tf148⟩
 ·cases h; exact ⟨rfl, tf151⟩
 ·cases h; exact ⟨rfl, tf152⟩
 ·cases h; exact ⟨rfl, tf153⟩
 ·cases h; exact ⟨rfl, tf154⟩
 ·cases h; exact ⟨rfl, tf155⟩
 ·cases h; exact ⟨rfl, tf156⟩
 ·cases h; exact ⟨rfl, tf157⟩
 ·cases h; exact ⟨rfl, tf158⟩
 ·cases h; exact ⟨rfl, tf159⟩
 ·cases h; exact ⟨rfl, tf160⟩
 ·cases h; exact ⟨rfl, tf161⟩
 ·cases h; exact ⟨rfl, tf162⟩
 ·cases h; exact ⟨rfl, tf163⟩
 ·cases h; exact ⟨rfl, tf164⟩
 ·cases h; exact ⟨rfl, tf165⟩
 ·cases h; exact ⟨rfl, tf166⟩
 ·cases h; exact ⟨rfl, tf167⟩
 ·cases h; exact ⟨rfl, tf169⟩
 ·cases h; exact ⟨rfl, tf170⟩
 ·cases h; exact ⟨rfl, tf173⟩
 ·cases h; exact ⟨rfl, tf174⟩
 ·cases h; exact ⟨rfl, tf175⟩
 ·cases h; exact ⟨rfl, tf176⟩
 ·cases h; exact ⟨rfl, tf178⟩
 ·cases h
theorem glob_ok (g : Nat) (e : AV) (h : G g = some e) : hot dep (.pv e 0) = false ∧ ∀ m, snap m dep (.pv e 0) = .pv e 0 := by
 cases h
theorem C_ok : C.OK where
 glob := glob_ok
 md := fun f fn h => (ft_ok f fn h).1
 fns := fun f fn h => (ft_ok f fn h).2
 names := fun f fn F _ hF => by
  have : (Tryz.prog.funcs.toList.all fun F => !(F.name == "runtime.NumGoroutine")) = true := by kernel_rfl
  have := List.all_eq_true.1 this F (by rw [← Array.getElem?_toList] at hF; exact List.mem_of_getElem? hF)
  simpa using this
 mixed := by kernel_rfl
end Go.Ab.T
end
