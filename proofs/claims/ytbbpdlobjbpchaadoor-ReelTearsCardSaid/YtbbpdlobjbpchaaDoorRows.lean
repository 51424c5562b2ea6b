/-
  NARROWER THAN 'FOR EVERY INPUT', by the rows' own cells (each row's printed sentence says how): ReelSpans: laid · ReelFeet: laid · ReelShows: laid · ReelLacks: laid · ReelTrue: laid · ReelMore: laid · ReelOrder: laid · ReelBack: laid · ReelTears: laid · ReelLiars: laid · ReelPut: laid.
  DERIVED. THE GIVEN ROWS OF THIS SEAT. 11 by the template 'for every input the law returns true; each argument reads behind the call as it read before'; 0 by the template 'total and deterministic' (their statements: YtbbpdlobjbpchaaDoorTotals.lean).
  GIVEN WITH THE SEED: the statements are not yours to turn. If you find one false, say at which input.
  Laid BY PROGRAM, IN A SANDBOX (cutbox-rows.mjs): the forced cells as the released guide's own fill.sh prints them over the translation eb01f80daee4d00c… (all of the seat's roots in one cut). By AI agents, Wed Nov 11 2026. No macro, syntax, notation, axiom, sorry.
-/
import Derived.Test.YtbbpdlobjbpchaaDoorChecked
import GoSem.Claim
import GoSem.ClaimJoined
import GoSem.ClaimMapViews
import Derived.JoinedTies
import Derived.KernelRfl
namespace Go.Proofs.YtbbpdlobjbpchaaDoor
/- THE CELL 'sum', in the pinned program and in every row, IS THE sha256 OF THE DUMP (.gsa) THAT YtbbpdlobjbpchaaDoorProg.lean LOADS. Nothing in Lean hashes anything: it is a label: what it is worth is what the hold of that sum in a sandbox is worth. -/
noncomputable def Tryd.pinned : Pinned := { name := "ytbbpdlobjbpchaadoor", sum := "eb01f80daee4d00c6146aa99d232e7e00b4152850b4179e7ee3798ef4991ddb6", checked := Tryd.checked }
namespace Rows
def none {H : Type} : Left H := { results := [], args := [] }

/- WHAT THE LISTED PACKAGE-LEVEL VARIABLES READ AS WHEN THE CALL BEGINS. Each datum BY PROGRAM (the guide's laid-datum.mjs) off the statement by which the dump's own 'gosem.cut.vars' lays the variable. In a bare row this is a premise. The card (YtbbpdlobjbpchaaDoorCards.lean) ties it to the program's text. -/
def laid_math_bits_deBruijn32tab {H : Type} : DataW H := .agg [.lit (.int .u8 0), .lit (.int .u8 1), .lit (.int .u8 28), .lit (.int .u8 2), .lit (.int .u8 29), .lit (.int .u8 14), .lit (.int .u8 24), .lit (.int .u8 3), .lit (.int .u8 30), .lit (.int .u8 22), .lit (.int .u8 20), .lit (.int .u8 15), .lit (.int .u8 25), .lit (.int .u8 17), .lit (.int .u8 4), .lit (.int .u8 8), .lit (.int .u8 31), .lit (.int .u8 27), .lit (.int .u8 13), .lit (.int .u8 23), .lit (.int .u8 21), .lit (.int .u8 19), .lit (.int .u8 16), .lit (.int .u8 7), .lit (.int .u8 26), .lit (.int .u8 12), .lit (.int .u8 18), .lit (.int .u8 6), .lit (.int .u8 11), .lit (.int .u8 5), .lit (.int .u8 10), .lit (.int .u8 9)]
def laid_math_bits_deBruijn64tab {H : Type} : DataW H := .agg [.lit (.int .u8 0), .lit (.int .u8 1), .lit (.int .u8 56), .lit (.int .u8 2), .lit (.int .u8 57), .lit (.int .u8 49), .lit (.int .u8 28), .lit (.int .u8 3), .lit (.int .u8 61), .lit (.int .u8 58), .lit (.int .u8 42), .lit (.int .u8 50), .lit (.int .u8 38), .lit (.int .u8 29), .lit (.int .u8 17), .lit (.int .u8 4), .lit (.int .u8 62), .lit (.int .u8 47), .lit (.int .u8 59), .lit (.int .u8 36), .lit (.int .u8 45), .lit (.int .u8 43), .lit (.int .u8 51), .lit (.int .u8 22), .lit (.int .u8 53), .lit (.int .u8 39), .lit (.int .u8 33), .lit (.int .u8 30), .lit (.int .u8 24), .lit (.int .u8 18), .lit (.int .u8 12), .lit (.int .u8 5), .lit (.int .u8 63), .lit (.int .u8 55), .lit (.int .u8 48), .lit (.int .u8 27), .lit (.int .u8 60), .lit (.int .u8 41), .lit (.int .u8 37), .lit (.int .u8 16), .lit (.int .u8 46), .lit (.int .u8 35), .lit (.int .u8 44), .lit (.int .u8 21), .lit (.int .u8 52), .lit (.int .u8 32), .lit (.int .u8 23), .lit (.int .u8 11), .lit (.int .u8 54), .lit (.int .u8 26), .lit (.int .u8 40), .lit (.int .u8 15), .lit (.int .u8 34), .lit (.int .u8 20), .lit (.int .u8 31), .lit (.int .u8 10), .lit (.int .u8 25), .lit (.int .u8 14), .lit (.int .u8 19), .lit (.int .u8 9), .lit (.int .u8 13), .lit (.int .u8 8), .lit (.int .u8 7), .lit (.int .u8 6)]
def laid_bijou_reel_withFoot {H : Type} : DataW H := .agg [.lit (.int .u64 12297829382473034410), .lit (.int .u64 14757395258967641292), .lit (.int .u64 17361641481138401520), .lit (.int .u64 18374966859414961920), .lit (.int .u64 18446462603027742720), .lit (.int .u64 18446744069414584320)]

/-- 'bijoulaw01.ReelSpans': WHATEVER THE INPUT: true; the input reads as it did. -/
def reelSpansSpec : ChangeSpec := { name := "reelSpans", fn := fun _ => fun
  | [d] => { results := [.lit (.bool true)], args := [d] }
  | _ => none }
def reelSpansRow : OpenClaim := { program := "ytbbpdlobjbpchaadoor", sum := "eb01f80daee4d00c6146aa99d232e7e00b4152850b4179e7ee3798ef4991ddb6", func := "bijou/bijoulaw01.ReelSpans", spec := "reelSpans", unfollowed := true, recurses := true, named := ["math/bits.deBruijn32tab", "bijou/reel.withFoot", "math/bits.deBruijn64tab"], apart := false, laid := [("math/bits.deBruijn32tab", laid_math_bits_deBruijn32tab), ("math/bits.deBruijn64tab", laid_math_bits_deBruijn64tab), ("bijou/reel.withFoot", laid_bijou_reel_withFoot)] }
def ReelSpansSaid : Prop := reelSpansRow.holds Tryd.pinned (OpenSpec.ofChange reelSpansSpec)

/-- ITS FALSE NEIGHBOUR: 'it returns false'. Refute it at one input. -/
def reelSpansWrong : ChangeSpec := { name := "reelSpans", fn := fun _ => fun
  | [d] => { results := [.lit (.bool false)], args := [d] }
  | _ => none }
def ReelSpansWrongFalsely : Prop := reelSpansRow.holds Tryd.pinned (OpenSpec.ofChange reelSpansWrong)

/-- 'bijoulaw01.ReelFeet': WHATEVER THE INPUT: true; the input reads as it did. -/
def reelFeetSpec : ChangeSpec := { name := "reelFeet", fn := fun _ => fun
  | [d1, d2] => { results := [.lit (.bool true)], args := [d1, d2] }
  | _ => none }
def reelFeetRow : OpenClaim := { program := "ytbbpdlobjbpchaadoor", sum := "eb01f80daee4d00c6146aa99d232e7e00b4152850b4179e7ee3798ef4991ddb6", func := "bijou/bijoulaw01.ReelFeet", spec := "reelFeet", unfollowed := true, recurses := true, named := ["math/bits.deBruijn32tab", "bijou/reel.withFoot", "math/bits.deBruijn64tab"], apart := false, laid := [("math/bits.deBruijn32tab", laid_math_bits_deBruijn32tab), ("math/bits.deBruijn64tab", laid_math_bits_deBruijn64tab), ("bijou/reel.withFoot", laid_bijou_reel_withFoot)] }
def ReelFeetSaid : Prop := reelFeetRow.holds Tryd.pinned (OpenSpec.ofChange reelFeetSpec)

/-- ITS FALSE NEIGHBOUR: 'it returns false'. Refute it at one input. -/
def reelFeetWrong : ChangeSpec := { name := "reelFeet", fn := fun _ => fun
  | [d1, d2] => { results := [.lit (.bool false)], args := [d1, d2] }
  | _ => none }
def ReelFeetWrongFalsely : Prop := reelFeetRow.holds Tryd.pinned (OpenSpec.ofChange reelFeetWrong)

/-- 'bijoulaw01.ReelShows': WHATEVER THE INPUT: true; the input reads as it did. -/
def reelShowsSpec : ChangeSpec := { name := "reelShows", fn := fun _ => fun
  | [d] => { results := [.lit (.bool true)], args := [d] }
  | _ => none }
def reelShowsRow : OpenClaim := { program := "ytbbpdlobjbpchaadoor", sum := "eb01f80daee4d00c6146aa99d232e7e00b4152850b4179e7ee3798ef4991ddb6", func := "bijou/bijoulaw01.ReelShows", spec := "reelShows", unfollowed := true, recurses := true, named := ["math/bits.deBruijn32tab", "bijou/reel.withFoot", "math/bits.deBruijn64tab"], apart := false, laid := [("math/bits.deBruijn32tab", laid_math_bits_deBruijn32tab), ("math/bits.deBruijn64tab", laid_math_bits_deBruijn64tab), ("bijou/reel.withFoot", laid_bijou_reel_withFoot)] }
def ReelShowsSaid : Prop := reelShowsRow.holds Tryd.pinned (OpenSpec.ofChange reelShowsSpec)

/-- ITS FALSE NEIGHBOUR: 'it returns false'. Refute it at one input. -/
def reelShowsWrong : ChangeSpec := { name := "reelShows", fn := fun _ => fun
  | [d] => { results := [.lit (.bool false)], args := [d] }
  | _ => none }
def ReelShowsWrongFalsely : Prop := reelShowsRow.holds Tryd.pinned (OpenSpec.ofChange reelShowsWrong)

/-- 'bijoulaw01.ReelLacks': WHATEVER THE INPUT: true; the input reads as it did. -/
def reelLacksSpec : ChangeSpec := { name := "reelLacks", fn := fun _ => fun
  | [d] => { results := [.lit (.bool true)], args := [d] }
  | _ => none }
def reelLacksRow : OpenClaim := { program := "ytbbpdlobjbpchaadoor", sum := "eb01f80daee4d00c6146aa99d232e7e00b4152850b4179e7ee3798ef4991ddb6", func := "bijou/bijoulaw01.ReelLacks", spec := "reelLacks", unfollowed := true, recurses := true, named := ["math/bits.deBruijn32tab", "bijou/reel.withFoot", "math/bits.deBruijn64tab"], apart := false, laid := [("math/bits.deBruijn32tab", laid_math_bits_deBruijn32tab), ("math/bits.deBruijn64tab", laid_math_bits_deBruijn64tab), ("bijou/reel.withFoot", laid_bijou_reel_withFoot)] }
def ReelLacksSaid : Prop := reelLacksRow.holds Tryd.pinned (OpenSpec.ofChange reelLacksSpec)

/-- ITS FALSE NEIGHBOUR: 'it returns false'. Refute it at one input. -/
def reelLacksWrong : ChangeSpec := { name := "reelLacks", fn := fun _ => fun
  | [d] => { results := [.lit (.bool false)], args := [d] }
  | _ => none }
def ReelLacksWrongFalsely : Prop := reelLacksRow.holds Tryd.pinned (OpenSpec.ofChange reelLacksWrong)

/-- 'bijoulaw01.ReelTrue': WHATEVER THE INPUT: true; the input reads as it did. -/
def reelTrueSpec : ChangeSpec := { name := "reelTrue", fn := fun _ => fun
  | [d1, d2] => { results := [.lit (.bool true)], args := [d1, d2] }
  | _ => none }
def reelTrueRow : OpenClaim := { program := "ytbbpdlobjbpchaadoor", sum := "eb01f80daee4d00c6146aa99d232e7e00b4152850b4179e7ee3798ef4991ddb6", func := "bijou/bijoulaw01.ReelTrue", spec := "reelTrue", unfollowed := true, recurses := true, named := ["math/bits.deBruijn32tab", "bijou/reel.withFoot", "math/bits.deBruijn64tab"], apart := false, laid := [("math/bits.deBruijn32tab", laid_math_bits_deBruijn32tab), ("math/bits.deBruijn64tab", laid_math_bits_deBruijn64tab), ("bijou/reel.withFoot", laid_bijou_reel_withFoot)] }
def ReelTrueSaid : Prop := reelTrueRow.holds Tryd.pinned (OpenSpec.ofChange reelTrueSpec)

/-- ITS FALSE NEIGHBOUR: 'it returns false'. Refute it at one input. -/
def reelTrueWrong : ChangeSpec := { name := "reelTrue", fn := fun _ => fun
  | [d1, d2] => { results := [.lit (.bool false)], args := [d1, d2] }
  | _ => none }
def ReelTrueWrongFalsely : Prop := reelTrueRow.holds Tryd.pinned (OpenSpec.ofChange reelTrueWrong)

/-- 'bijoulaw01.ReelMore': WHATEVER THE INPUT: true; the input reads as it did. -/
def reelMoreSpec : ChangeSpec := { name := "reelMore", fn := fun _ => fun
  | [d1, d2, d3] => { results := [.lit (.bool true)], args := [d1, d2, d3] }
  | _ => none }
def reelMoreRow : OpenClaim := { program := "ytbbpdlobjbpchaadoor", sum := "eb01f80daee4d00c6146aa99d232e7e00b4152850b4179e7ee3798ef4991ddb6", func := "bijou/bijoulaw01.ReelMore", spec := "reelMore", unfollowed := true, recurses := true, named := ["math/bits.deBruijn32tab", "bijou/reel.withFoot", "math/bits.deBruijn64tab"], apart := false, laid := [("math/bits.deBruijn32tab", laid_math_bits_deBruijn32tab), ("math/bits.deBruijn64tab", laid_math_bits_deBruijn64tab), ("bijou/reel.withFoot", laid_bijou_reel_withFoot)] }
def ReelMoreSaid : Prop := reelMoreRow.holds Tryd.pinned (OpenSpec.ofChange reelMoreSpec)

/-- ITS FALSE NEIGHBOUR: 'it returns false'. Refute it at one input. -/
def reelMoreWrong : ChangeSpec := { name := "reelMore", fn := fun _ => fun
  | [d1, d2, d3] => { results := [.lit (.bool false)], args := [d1, d2, d3] }
  | _ => none }
def ReelMoreWrongFalsely : Prop := reelMoreRow.holds Tryd.pinned (OpenSpec.ofChange reelMoreWrong)

/-- 'bijoulaw01.ReelOrder': WHATEVER THE INPUT: true; the input reads as it did. -/
def reelOrderSpec : ChangeSpec := { name := "reelOrder", fn := fun _ => fun
  | [d1, d2] => { results := [.lit (.bool true)], args := [d1, d2] }
  | _ => none }
def reelOrderRow : OpenClaim := { program := "ytbbpdlobjbpchaadoor", sum := "eb01f80daee4d00c6146aa99d232e7e00b4152850b4179e7ee3798ef4991ddb6", func := "bijou/bijoulaw01.ReelOrder", spec := "reelOrder", unfollowed := true, recurses := true, named := ["math/bits.deBruijn32tab", "bijou/reel.withFoot", "math/bits.deBruijn64tab"], apart := false, laid := [("math/bits.deBruijn32tab", laid_math_bits_deBruijn32tab), ("math/bits.deBruijn64tab", laid_math_bits_deBruijn64tab), ("bijou/reel.withFoot", laid_bijou_reel_withFoot)] }
def ReelOrderSaid : Prop := reelOrderRow.holds Tryd.pinned (OpenSpec.ofChange reelOrderSpec)

/-- ITS FALSE NEIGHBOUR: 'it returns false'. Refute it at one input. -/
def reelOrderWrong : ChangeSpec := { name := "reelOrder", fn := fun _ => fun
  | [d1, d2] => { results := [.lit (.bool false)], args := [d1, d2] }
  | _ => none }
def ReelOrderWrongFalsely : Prop := reelOrderRow.holds Tryd.pinned (OpenSpec.ofChange reelOrderWrong)

/-- 'bijoulaw01.ReelBack': WHATEVER THE INPUT: true; the input reads as it did. -/
def reelBackSpec : ChangeSpec := { name := "reelBack", fn := fun _ => fun
  | [d1, d2] => { results := [.lit (.bool true)], args := [d1, d2] }
  | _ => none }
def reelBackRow : OpenClaim := { program := "ytbbpdlobjbpchaadoor", sum := "eb01f80daee4d00c6146aa99d232e7e00b4152850b4179e7ee3798ef4991ddb6", func := "bijou/bijoulaw01.ReelBack", spec := "reelBack", unfollowed := true, recurses := true, named := ["math/bits.deBruijn32tab", "bijou/reel.withFoot", "math/bits.deBruijn64tab"], apart := false, laid := [("math/bits.deBruijn32tab", laid_math_bits_deBruijn32tab), ("math/bits.deBruijn64tab", laid_math_bits_deBruijn64tab), ("bijou/reel.withFoot", laid_bijou_reel_withFoot)] }
def ReelBackSaid : Prop := reelBackRow.holds Tryd.pinned (OpenSpec.ofChange reelBackSpec)

/-- ITS FALSE NEIGHBOUR: 'it returns false'. Refute it at one input. -/
def reelBackWrong : ChangeSpec := { name := "reelBack", fn := fun _ => fun
  | [d1, d2] => { results := [.lit (.bool false)], args := [d1, d2] }
  | _ => none }
def ReelBackWrongFalsely : Prop := reelBackRow.holds Tryd.pinned (OpenSpec.ofChange reelBackWrong)

/-- 'bijoulaw01.ReelTears': WHATEVER THE INPUT: true; the input reads as it did. -/
def reelTearsSpec : ChangeSpec := { name := "reelTears", fn := fun _ => fun
  | [d1, d2] => { results := [.lit (.bool true)], args := [d1, d2] }
  | _ => none }
def reelTearsRow : OpenClaim := { program := "ytbbpdlobjbpchaadoor", sum := "eb01f80daee4d00c6146aa99d232e7e00b4152850b4179e7ee3798ef4991ddb6", func := "bijou/bijoulaw01.ReelTears", spec := "reelTears", unfollowed := true, recurses := true, named := ["math/bits.deBruijn32tab", "bijou/reel.withFoot", "math/bits.deBruijn64tab"], apart := false, laid := [("math/bits.deBruijn32tab", laid_math_bits_deBruijn32tab), ("math/bits.deBruijn64tab", laid_math_bits_deBruijn64tab), ("bijou/reel.withFoot", laid_bijou_reel_withFoot)] }
def ReelTearsSaid : Prop := reelTearsRow.holds Tryd.pinned (OpenSpec.ofChange reelTearsSpec)

/-- ITS FALSE NEIGHBOUR: 'it returns false'. Refute it at one input. -/
def reelTearsWrong : ChangeSpec := { name := "reelTears", fn := fun _ => fun
  | [d1, d2] => { results := [.lit (.bool false)], args := [d1, d2] }
  | _ => none }
def ReelTearsWrongFalsely : Prop := reelTearsRow.holds Tryd.pinned (OpenSpec.ofChange reelTearsWrong)

/-- 'bijoulaw01.ReelLiars': WHATEVER THE INPUT: true; the input reads as it did. -/
def reelLiarsSpec : ChangeSpec := { name := "reelLiars", fn := fun _ => fun
  | [d1, d2] => { results := [.lit (.bool true)], args := [d1, d2] }
  | _ => none }
def reelLiarsRow : OpenClaim := { program := "ytbbpdlobjbpchaadoor", sum := "eb01f80daee4d00c6146aa99d232e7e00b4152850b4179e7ee3798ef4991ddb6", func := "bijou/bijoulaw01.ReelLiars", spec := "reelLiars", unfollowed := true, recurses := true, named := ["math/bits.deBruijn32tab", "bijou/reel.withFoot", "math/bits.deBruijn64tab"], apart := false, laid := [("math/bits.deBruijn32tab", laid_math_bits_deBruijn32tab), ("math/bits.deBruijn64tab", laid_math_bits_deBruijn64tab), ("bijou/reel.withFoot", laid_bijou_reel_withFoot)] }
def ReelLiarsSaid : Prop := reelLiarsRow.holds Tryd.pinned (OpenSpec.ofChange reelLiarsSpec)

/-- ITS FALSE NEIGHBOUR: 'it returns false'. Refute it at one input. -/
def reelLiarsWrong : ChangeSpec := { name := "reelLiars", fn := fun _ => fun
  | [d1, d2] => { results := [.lit (.bool false)], args := [d1, d2] }
  | _ => none }
def ReelLiarsWrongFalsely : Prop := reelLiarsRow.holds Tryd.pinned (OpenSpec.ofChange reelLiarsWrong)

/-- 'bijoulaw01.ReelPut': WHATEVER THE INPUT: true; the input reads as it did. -/
def reelPutSpec : ChangeSpec := { name := "reelPut", fn := fun _ => fun
  | [d1, d2] => { results := [.lit (.bool true)], args := [d1, d2] }
  | _ => none }
def reelPutRow : OpenClaim := { program := "ytbbpdlobjbpchaadoor", sum := "eb01f80daee4d00c6146aa99d232e7e00b4152850b4179e7ee3798ef4991ddb6", func := "bijou/bijoulaw01.ReelPut", spec := "reelPut", unfollowed := true, recurses := true, named := ["math/bits.deBruijn32tab", "bijou/reel.withFoot", "math/bits.deBruijn64tab"], apart := false, laid := [("math/bits.deBruijn32tab", laid_math_bits_deBruijn32tab), ("math/bits.deBruijn64tab", laid_math_bits_deBruijn64tab), ("bijou/reel.withFoot", laid_bijou_reel_withFoot)] }
def ReelPutSaid : Prop := reelPutRow.holds Tryd.pinned (OpenSpec.ofChange reelPutSpec)

/-- ITS FALSE NEIGHBOUR: 'it returns false'. Refute it at one input. -/
def reelPutWrong : ChangeSpec := { name := "reelPut", fn := fun _ => fun
  | [d1, d2] => { results := [.lit (.bool false)], args := [d1, d2] }
  | _ => none }
def ReelPutWrongFalsely : Prop := reelPutRow.holds Tryd.pinned (OpenSpec.ofChange reelPutWrong)

/- THE SECOND FORM. 'bulk': how many values and letters a reading holds, each counted each time it is reached (what is shared counts as often as it is met; a slice's spare places count too). A statement '..UptoSaid' is the law's where the arguments, and the package variables that the reading takes, are together of bulk at most 1048576: NARROWER than '..Said'. Prove '..Said' where nothing that the law and all that it calls make is longer than what came in: it says more and counts as full. Else prove '..UptoSaid'. A law counts once. -/
mutual
def uptoBulk {H : Type} : DataW H → Nat
  | .lit (.string bytes) => bytes.length + 1
  | .lit _ => 1
  | .nil => 1
  | .ptr d => uptoBulk d + 1
  | .slice elems spare => uptoBulkAll elems + uptoBulkAll spare + 1
  | .agg parts => uptoBulkAll parts + 1
  | .iface _ d => uptoBulk d + 1
  | .map entries => uptoBulkEntries entries + 1
  | .held _ => 1
def uptoBulkAll {H : Type} : List (DataW H) → Nat
  | [] => 0
  | d :: r => uptoBulk d + uptoBulkAll r
def uptoBulkEntries {H : Type} : List (Lit × DataW H) → Nat
  | [] => 0
  | x :: r => uptoBulkEntry x + uptoBulkEntries r
def uptoBulkEntry {H : Type} : Lit × DataW H → Nat
  | (.string bytes, d) => bytes.length + uptoBulk d + 1
  | (_, d) => uptoBulk d + 1
 end
def uptoSmall : (H : Type) → List (DataW H) → Bool := fun _ ds => decide (uptoBulkAll ds ≤ 1048576)
def OpenSpec.upto (s : _root_.Go.ChangeSpec) : _root_.Go.OpenSpec := { _root_.Go.OpenSpec.ofChange s with cond := some uptoSmall }

/-- 'bijoulaw01.ReelSpans', WHERE WHAT IT READS IS OF BULK AT MOST 1048576: true; the input reads as it did. -/
def reelSpansUptoRow : OpenClaim := { program := "ytbbpdlobjbpchaadoor", sum := "eb01f80daee4d00c6146aa99d232e7e00b4152850b4179e7ee3798ef4991ddb6", func := "bijou/bijoulaw01.ReelSpans", spec := "reelSpans", unfollowed := true, recurses := true, named := ["math/bits.deBruijn32tab", "bijou/reel.withFoot", "math/bits.deBruijn64tab"], apart := false, laid := [("math/bits.deBruijn32tab", laid_math_bits_deBruijn32tab), ("math/bits.deBruijn64tab", laid_math_bits_deBruijn64tab), ("bijou/reel.withFoot", laid_bijou_reel_withFoot)], narrowed := true }
def ReelSpansUptoSaid : Prop := reelSpansUptoRow.holds Tryd.pinned (OpenSpec.upto reelSpansSpec)

/-- 'bijoulaw01.ReelFeet', WHERE WHAT IT READS IS OF BULK AT MOST 1048576: true; the input reads as it did. -/
def reelFeetUptoRow : OpenClaim := { program := "ytbbpdlobjbpchaadoor", sum := "eb01f80daee4d00c6146aa99d232e7e00b4152850b4179e7ee3798ef4991ddb6", func := "bijou/bijoulaw01.ReelFeet", spec := "reelFeet", unfollowed := true, recurses := true, named := ["math/bits.deBruijn32tab", "bijou/reel.withFoot", "math/bits.deBruijn64tab"], apart := false, laid := [("math/bits.deBruijn32tab", laid_math_bits_deBruijn32tab), ("math/bits.deBruijn64tab", laid_math_bits_deBruijn64tab), ("bijou/reel.withFoot", laid_bijou_reel_withFoot)], narrowed := true }
def ReelFeetUptoSaid : Prop := reelFeetUptoRow.holds Tryd.pinned (OpenSpec.upto reelFeetSpec)

/-- 'bijoulaw01.ReelShows', WHERE WHAT IT READS IS OF BULK AT MOST 1048576: true; the input reads as it did. -/
def reelShowsUptoRow : OpenClaim := { program := "ytbbpdlobjbpchaadoor", sum := "eb01f80daee4d00c6146aa99d232e7e00b4152850b4179e7ee3798ef4991ddb6", func := "bijou/bijoulaw01.ReelShows", spec := "reelShows", unfollowed := true, recurses := true, named := ["math/bits.deBruijn32tab", "bijou/reel.withFoot", "math/bits.deBruijn64tab"], apart := false, laid := [("math/bits.deBruijn32tab", laid_math_bits_deBruijn32tab), ("math/bits.deBruijn64tab", laid_math_bits_deBruijn64tab), ("bijou/reel.withFoot", laid_bijou_reel_withFoot)], narrowed := true }
def ReelShowsUptoSaid : Prop := reelShowsUptoRow.holds Tryd.pinned (OpenSpec.upto reelShowsSpec)

/-- 'bijoulaw01.ReelLacks', WHERE WHAT IT READS IS OF BULK AT MOST 1048576: true; the input reads as it did. -/
def reelLacksUptoRow : OpenClaim := { program := "ytbbpdlobjbpchaadoor", sum := "eb01f80daee4d00c6146aa99d232e7e00b4152850b4179e7ee3798ef4991ddb6", func := "bijou/bijoulaw01.ReelLacks", spec := "reelLacks", unfollowed := true, recurses := true, named := ["math/bits.deBruijn32tab", "bijou/reel.withFoot", "math/bits.deBruijn64tab"], apart := false, laid := [("math/bits.deBruijn32tab", laid_math_bits_deBruijn32tab), ("math/bits.deBruijn64tab", laid_math_bits_deBruijn64tab), ("bijou/reel.withFoot", laid_bijou_reel_withFoot)], narrowed := true }
def ReelLacksUptoSaid : Prop := reelLacksUptoRow.holds Tryd.pinned (OpenSpec.upto reelLacksSpec)

/-- 'bijoulaw01.ReelTrue', WHERE WHAT IT READS IS OF BULK AT MOST 1048576: true; the input reads as it did. -/
def reelTrueUptoRow : OpenClaim := { program := "ytbbpdlobjbpchaadoor", sum := "eb01f80daee4d00c6146aa99d232e7e00b4152850b4179e7ee3798ef4991ddb6", func := "bijou/bijoulaw01.ReelTrue", spec := "reelTrue", unfollowed := true, recurses := true, named := ["math/bits.deBruijn32tab", "bijou/reel.withFoot", "math/bits.deBruijn64tab"], apart := false, laid := [("math/bits.deBruijn32tab", laid_math_bits_deBruijn32tab), ("math/bits.deBruijn64tab", laid_math_bits_deBruijn64tab), ("bijou/reel.withFoot", laid_bijou_reel_withFoot)], narrowed := true }
def ReelTrueUptoSaid : Prop := reelTrueUptoRow.holds Tryd.pinned (OpenSpec.upto reelTrueSpec)

/-- 'bijoulaw01.ReelMore', WHERE WHAT IT READS IS OF BULK AT MOST 1048576: true; the input reads as it did. -/
def reelMoreUptoRow : OpenClaim := { program := "ytbbpdlobjbpchaadoor", sum := "eb01f80daee4d00c6146aa99d232e7e00b4152850b4179e7ee3798ef4991ddb6", func := "bijou/bijoulaw01.ReelMore", spec := "reelMore", unfollowed := true, recurses := true, named := ["math/bits.deBruijn32tab", "bijou/reel.withFoot", "math/bits.deBruijn64tab"], apart := false, laid := [("math/bits.deBruijn32tab", laid_math_bits_deBruijn32tab), ("math/bits.deBruijn64tab", laid_math_bits_deBruijn64tab), ("bijou/reel.withFoot", laid_bijou_reel_withFoot)], narrowed := true }
def ReelMoreUptoSaid : Prop := reelMoreUptoRow.holds Tryd.pinned (OpenSpec.upto reelMoreSpec)

/-- 'bijoulaw01.ReelOrder', WHERE WHAT IT READS IS OF BULK AT MOST 1048576: true; the input reads as it did. -/
def reelOrderUptoRow : OpenClaim := { program := "ytbbpdlobjbpchaadoor", sum := "eb01f80daee4d00c6146aa99d232e7e00b4152850b4179e7ee3798ef4991ddb6", func := "bijou/bijoulaw01.ReelOrder", spec := "reelOrder", unfollowed := true, recurses := true, named := ["math/bits.deBruijn32tab", "bijou/reel.withFoot", "math/bits.deBruijn64tab"], apart := false, laid := [("math/bits.deBruijn32tab", laid_math_bits_deBruijn32tab), ("math/bits.deBruijn64tab", laid_math_bits_deBruijn64tab), ("bijou/reel.withFoot", laid_bijou_reel_withFoot)], narrowed := true }
def ReelOrderUptoSaid : Prop := reelOrderUptoRow.holds Tryd.pinned (OpenSpec.upto reelOrderSpec)

/-- 'bijoulaw01.ReelBack', WHERE WHAT IT READS IS OF BULK AT MOST 1048576: true; the input reads as it did. -/
def reelBackUptoRow : OpenClaim := { program := "ytbbpdlobjbpchaadoor", sum := "eb01f80daee4d00c6146aa99d232e7e00b4152850b4179e7ee3798ef4991ddb6", func := "bijou/bijoulaw01.ReelBack", spec := "reelBack", unfollowed := true, recurses := true, named := ["math/bits.deBruijn32tab", "bijou/reel.withFoot", "math/bits.deBruijn64tab"], apart := false, laid := [("math/bits.deBruijn32tab", laid_math_bits_deBruijn32tab), ("math/bits.deBruijn64tab", laid_math_bits_deBruijn64tab), ("bijou/reel.withFoot", laid_bijou_reel_withFoot)], narrowed := true }
def ReelBackUptoSaid : Prop := reelBackUptoRow.holds Tryd.pinned (OpenSpec.upto reelBackSpec)

/-- 'bijoulaw01.ReelTears', WHERE WHAT IT READS IS OF BULK AT MOST 1048576: true; the input reads as it did. -/
def reelTearsUptoRow : OpenClaim := { program := "ytbbpdlobjbpchaadoor", sum := "eb01f80daee4d00c6146aa99d232e7e00b4152850b4179e7ee3798ef4991ddb6", func := "bijou/bijoulaw01.ReelTears", spec := "reelTears", unfollowed := true, recurses := true, named := ["math/bits.deBruijn32tab", "bijou/reel.withFoot", "math/bits.deBruijn64tab"], apart := false, laid := [("math/bits.deBruijn32tab", laid_math_bits_deBruijn32tab), ("math/bits.deBruijn64tab", laid_math_bits_deBruijn64tab), ("bijou/reel.withFoot", laid_bijou_reel_withFoot)], narrowed := true }
def ReelTearsUptoSaid : Prop := reelTearsUptoRow.holds Tryd.pinned (OpenSpec.upto reelTearsSpec)

/-- 'bijoulaw01.ReelLiars', WHERE WHAT IT READS IS OF BULK AT MOST 1048576: true; the input reads as it did. -/
def reelLiarsUptoRow : OpenClaim := { program := "ytbbpdlobjbpchaadoor", sum := "eb01f80daee4d00c6146aa99d232e7e00b4152850b4179e7ee3798ef4991ddb6", func := "bijou/bijoulaw01.ReelLiars", spec := "reelLiars", unfollowed := true, recurses := true, named := ["math/bits.deBruijn32tab", "bijou/reel.withFoot", "math/bits.deBruijn64tab"], apart := false, laid := [("math/bits.deBruijn32tab", laid_math_bits_deBruijn32tab), ("math/bits.deBruijn64tab", laid_math_bits_deBruijn64tab), ("bijou/reel.withFoot", laid_bijou_reel_withFoot)], narrowed := true }
def ReelLiarsUptoSaid : Prop := reelLiarsUptoRow.holds Tryd.pinned (OpenSpec.upto reelLiarsSpec)

/-- 'bijoulaw01.ReelPut', WHERE WHAT IT READS IS OF BULK AT MOST 1048576: true; the input reads as it did. -/
def reelPutUptoRow : OpenClaim := { program := "ytbbpdlobjbpchaadoor", sum := "eb01f80daee4d00c6146aa99d232e7e00b4152850b4179e7ee3798ef4991ddb6", func := "bijou/bijoulaw01.ReelPut", spec := "reelPut", unfollowed := true, recurses := true, named := ["math/bits.deBruijn32tab", "bijou/reel.withFoot", "math/bits.deBruijn64tab"], apart := false, laid := [("math/bits.deBruijn32tab", laid_math_bits_deBruijn32tab), ("math/bits.deBruijn64tab", laid_math_bits_deBruijn64tab), ("bijou/reel.withFoot", laid_bijou_reel_withFoot)], narrowed := true }
def ReelPutUptoSaid : Prop := reelPutUptoRow.holds Tryd.pinned (OpenSpec.upto reelPutSpec)

end Rows
end Go.Proofs.YtbbpdlobjbpchaaDoor
