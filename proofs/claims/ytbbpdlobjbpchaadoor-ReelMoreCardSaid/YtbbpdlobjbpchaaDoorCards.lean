/-
  DERIVED. GIVEN WITH THE SEED: THE CARDS: each row of YtbbpdlobjbpchaaDoorRows.lean that lists a variable, with what it lists TIED to the program's text (the seventh form; the later family's looks); each row that meets fmt, with fmt's text TOLD by the authors' own Lean function (tested against real Go, not proved from fmt's source: count such statements apart). THE CARD IS WHAT COUNTS. Prove the row's statement (the work); the ties are given (YtbbpdlobjbpchaaDoorTie.lean); close each card by the builder's one call (the guide's Derived/Test/ToyasCard.lean, 'card_holds'). Laid BY PROGRAM, IN A SANDBOX (cutbox-door.mjs). By AI agents, Wed Nov 11 2026. No macro, syntax, notation, axiom, sorry.
-/
import Derived.Test.YtbbpdlobjbpchaaDoorRows
import GoSem.ClaimSeven
namespace Go.Proofs.YtbbpdlobjbpchaaDoor
namespace Rows

/-- THE TIED CARD OF 'bijoulaw01.ReelSpans'. -/
def reelSpansCard : Claim7 := { stood := { row := reelSpansRow, standIns := [], harness := (true, "260240c9f9b2b0a68dddd2ac576c0b91af5f090f4ccd06050aa86abd4530eaa4"), looks := false }, kinds := [], alts := [], laidByText := true, laidKinds := [.data, .data, .data], laidTests := true, laidLooks := .later }
def ReelSpansCardSaid : Prop := Claim7.holds Tryd.pinned (.plain (OpenSpec.ofChange reelSpansSpec)) reelSpansCard

/-- THE TIED CARD OF 'bijoulaw01.ReelFeet'. -/
def reelFeetCard : Claim7 := { stood := { row := reelFeetRow, standIns := [], harness := (true, "260240c9f9b2b0a68dddd2ac576c0b91af5f090f4ccd06050aa86abd4530eaa4"), looks := false }, kinds := [], alts := [], laidByText := true, laidKinds := [.data, .data, .data], laidTests := true, laidLooks := .later }
def ReelFeetCardSaid : Prop := Claim7.holds Tryd.pinned (.plain (OpenSpec.ofChange reelFeetSpec)) reelFeetCard

/-- THE TIED CARD OF 'bijoulaw01.ReelShows'. -/
def reelShowsCard : Claim7 := { stood := { row := reelShowsRow, standIns := [], harness := (true, "260240c9f9b2b0a68dddd2ac576c0b91af5f090f4ccd06050aa86abd4530eaa4"), looks := false }, kinds := [], alts := [], laidByText := true, laidKinds := [.data, .data, .data], laidTests := true, laidLooks := .later }
def ReelShowsCardSaid : Prop := Claim7.holds Tryd.pinned (.plain (OpenSpec.ofChange reelShowsSpec)) reelShowsCard

/-- THE TIED CARD OF 'bijoulaw01.ReelLacks'. -/
def reelLacksCard : Claim7 := { stood := { row := reelLacksRow, standIns := [], harness := (true, "260240c9f9b2b0a68dddd2ac576c0b91af5f090f4ccd06050aa86abd4530eaa4"), looks := false }, kinds := [], alts := [], laidByText := true, laidKinds := [.data, .data, .data], laidTests := true, laidLooks := .later }
def ReelLacksCardSaid : Prop := Claim7.holds Tryd.pinned (.plain (OpenSpec.ofChange reelLacksSpec)) reelLacksCard

/-- THE TIED CARD OF 'bijoulaw01.ReelTrue'. -/
def reelTrueCard : Claim7 := { stood := { row := reelTrueRow, standIns := [], harness := (true, "260240c9f9b2b0a68dddd2ac576c0b91af5f090f4ccd06050aa86abd4530eaa4"), looks := false }, kinds := [], alts := [], laidByText := true, laidKinds := [.data, .data, .data], laidTests := true, laidLooks := .later }
def ReelTrueCardSaid : Prop := Claim7.holds Tryd.pinned (.plain (OpenSpec.ofChange reelTrueSpec)) reelTrueCard

/-- THE TIED CARD OF 'bijoulaw01.ReelMore'. -/
def reelMoreCard : Claim7 := { stood := { row := reelMoreRow, standIns := [], harness := (true, "260240c9f9b2b0a68dddd2ac576c0b91af5f090f4ccd06050aa86abd4530eaa4"), looks := false }, kinds := [], alts := [], laidByText := true, laidKinds := [.data, .data, .data], laidTests := true, laidLooks := .later }
def ReelMoreCardSaid : Prop := Claim7.holds Tryd.pinned (.plain (OpenSpec.ofChange reelMoreSpec)) reelMoreCard

/-- THE TIED CARD OF 'bijoulaw01.ReelOrder'. -/
def reelOrderCard : Claim7 := { stood := { row := reelOrderRow, standIns := [], harness := (true, "260240c9f9b2b0a68dddd2ac576c0b91af5f090f4ccd06050aa86abd4530eaa4"), looks := false }, kinds := [], alts := [], laidByText := true, laidKinds := [.data, .data, .data], laidTests := true, laidLooks := .later }
def ReelOrderCardSaid : Prop := Claim7.holds Tryd.pinned (.plain (OpenSpec.ofChange reelOrderSpec)) reelOrderCard

/-- THE TIED CARD OF 'bijoulaw01.ReelBack'. -/
def reelBackCard : Claim7 := { stood := { row := reelBackRow, standIns := [], harness := (true, "260240c9f9b2b0a68dddd2ac576c0b91af5f090f4ccd06050aa86abd4530eaa4"), looks := false }, kinds := [], alts := [], laidByText := true, laidKinds := [.data, .data, .data], laidTests := true, laidLooks := .later }
def ReelBackCardSaid : Prop := Claim7.holds Tryd.pinned (.plain (OpenSpec.ofChange reelBackSpec)) reelBackCard

/-- THE TIED CARD OF 'bijoulaw01.ReelTears'. -/
def reelTearsCard : Claim7 := { stood := { row := reelTearsRow, standIns := [], harness := (true, "260240c9f9b2b0a68dddd2ac576c0b91af5f090f4ccd06050aa86abd4530eaa4"), looks := false }, kinds := [], alts := [], laidByText := true, laidKinds := [.data, .data, .data], laidTests := true, laidLooks := .later }
def ReelTearsCardSaid : Prop := Claim7.holds Tryd.pinned (.plain (OpenSpec.ofChange reelTearsSpec)) reelTearsCard

/-- THE TIED CARD OF 'bijoulaw01.ReelLiars'. -/
def reelLiarsCard : Claim7 := { stood := { row := reelLiarsRow, standIns := [], harness := (true, "260240c9f9b2b0a68dddd2ac576c0b91af5f090f4ccd06050aa86abd4530eaa4"), looks := false }, kinds := [], alts := [], laidByText := true, laidKinds := [.data, .data, .data], laidTests := true, laidLooks := .later }
def ReelLiarsCardSaid : Prop := Claim7.holds Tryd.pinned (.plain (OpenSpec.ofChange reelLiarsSpec)) reelLiarsCard

/-- THE TIED CARD OF 'bijoulaw01.ReelPut'. -/
def reelPutCard : Claim7 := { stood := { row := reelPutRow, standIns := [], harness := (true, "260240c9f9b2b0a68dddd2ac576c0b91af5f090f4ccd06050aa86abd4530eaa4"), looks := false }, kinds := [], alts := [], laidByText := true, laidKinds := [.data, .data, .data], laidTests := true, laidLooks := .later }
def ReelPutCardSaid : Prop := Claim7.holds Tryd.pinned (.plain (OpenSpec.ofChange reelPutSpec)) reelPutCard

/-- THE SECOND FORM's CARD OF 'bijoulaw01.ReelSpans'. -/
def reelSpansUptoCard : Claim7 := { stood := { row := reelSpansUptoRow, standIns := [], harness := (true, "260240c9f9b2b0a68dddd2ac576c0b91af5f090f4ccd06050aa86abd4530eaa4"), looks := false }, kinds := [], alts := [], laidByText := true, laidKinds := [.data, .data, .data], laidTests := true, laidLooks := .later }
def ReelSpansUptoCardSaid : Prop := Claim7.holds Tryd.pinned (.plain (OpenSpec.upto reelSpansSpec)) reelSpansUptoCard

/-- THE SECOND FORM's CARD OF 'bijoulaw01.ReelFeet'. -/
def reelFeetUptoCard : Claim7 := { stood := { row := reelFeetUptoRow, standIns := [], harness := (true, "260240c9f9b2b0a68dddd2ac576c0b91af5f090f4ccd06050aa86abd4530eaa4"), looks := false }, kinds := [], alts := [], laidByText := true, laidKinds := [.data, .data, .data], laidTests := true, laidLooks := .later }
def ReelFeetUptoCardSaid : Prop := Claim7.holds Tryd.pinned (.plain (OpenSpec.upto reelFeetSpec)) reelFeetUptoCard

/-- THE SECOND FORM's CARD OF 'bijoulaw01.ReelShows'. -/
def reelShowsUptoCard : Claim7 := { stood := { row := reelShowsUptoRow, standIns := [], harness := (true, "260240c9f9b2b0a68dddd2ac576c0b91af5f090f4ccd06050aa86abd4530eaa4"), looks := false }, kinds := [], alts := [], laidByText := true, laidKinds := [.data, .data, .data], laidTests := true, laidLooks := .later }
def ReelShowsUptoCardSaid : Prop := Claim7.holds Tryd.pinned (.plain (OpenSpec.upto reelShowsSpec)) reelShowsUptoCard

/-- THE SECOND FORM's CARD OF 'bijoulaw01.ReelLacks'. -/
def reelLacksUptoCard : Claim7 := { stood := { row := reelLacksUptoRow, standIns := [], harness := (true, "260240c9f9b2b0a68dddd2ac576c0b91af5f090f4ccd06050aa86abd4530eaa4"), looks := false }, kinds := [], alts := [], laidByText := true, laidKinds := [.data, .data, .data], laidTests := true, laidLooks := .later }
def ReelLacksUptoCardSaid : Prop := Claim7.holds Tryd.pinned (.plain (OpenSpec.upto reelLacksSpec)) reelLacksUptoCard

/-- THE SECOND FORM's CARD OF 'bijoulaw01.ReelTrue'. -/
def reelTrueUptoCard : Claim7 := { stood := { row := reelTrueUptoRow, standIns := [], harness := (true, "260240c9f9b2b0a68dddd2ac576c0b91af5f090f4ccd06050aa86abd4530eaa4"), looks := false }, kinds := [], alts := [], laidByText := true, laidKinds := [.data, .data, .data], laidTests := true, laidLooks := .later }
def ReelTrueUptoCardSaid : Prop := Claim7.holds Tryd.pinned (.plain (OpenSpec.upto reelTrueSpec)) reelTrueUptoCard

/-- THE SECOND FORM's CARD OF 'bijoulaw01.ReelMore'. -/
def reelMoreUptoCard : Claim7 := { stood := { row := reelMoreUptoRow, standIns := [], harness := (true, "260240c9f9b2b0a68dddd2ac576c0b91af5f090f4ccd06050aa86abd4530eaa4"), looks := false }, kinds := [], alts := [], laidByText := true, laidKinds := [.data, .data, .data], laidTests := true, laidLooks := .later }
def ReelMoreUptoCardSaid : Prop := Claim7.holds Tryd.pinned (.plain (OpenSpec.upto reelMoreSpec)) reelMoreUptoCard

/-- THE SECOND FORM's CARD OF 'bijoulaw01.ReelOrder'. -/
def reelOrderUptoCard : Claim7 := { stood := { row := reelOrderUptoRow, standIns := [], harness := (true, "260240c9f9b2b0a68dddd2ac576c0b91af5f090f4ccd06050aa86abd4530eaa4"), looks := false }, kinds := [], alts := [], laidByText := true, laidKinds := [.data, .data, .data], laidTests := true, laidLooks := .later }
def ReelOrderUptoCardSaid : Prop := Claim7.holds Tryd.pinned (.plain (OpenSpec.upto reelOrderSpec)) reelOrderUptoCard

/-- THE SECOND FORM's CARD OF 'bijoulaw01.ReelBack'. -/
def reelBackUptoCard : Claim7 := { stood := { row := reelBackUptoRow, standIns := [], harness := (true, "260240c9f9b2b0a68dddd2ac576c0b91af5f090f4ccd06050aa86abd4530eaa4"), looks := false }, kinds := [], alts := [], laidByText := true, laidKinds := [.data, .data, .data], laidTests := true, laidLooks := .later }
def ReelBackUptoCardSaid : Prop := Claim7.holds Tryd.pinned (.plain (OpenSpec.upto reelBackSpec)) reelBackUptoCard

/-- THE SECOND FORM's CARD OF 'bijoulaw01.ReelTears'. -/
def reelTearsUptoCard : Claim7 := { stood := { row := reelTearsUptoRow, standIns := [], harness := (true, "260240c9f9b2b0a68dddd2ac576c0b91af5f090f4ccd06050aa86abd4530eaa4"), looks := false }, kinds := [], alts := [], laidByText := true, laidKinds := [.data, .data, .data], laidTests := true, laidLooks := .later }
def ReelTearsUptoCardSaid : Prop := Claim7.holds Tryd.pinned (.plain (OpenSpec.upto reelTearsSpec)) reelTearsUptoCard

/-- THE SECOND FORM's CARD OF 'bijoulaw01.ReelLiars'. -/
def reelLiarsUptoCard : Claim7 := { stood := { row := reelLiarsUptoRow, standIns := [], harness := (true, "260240c9f9b2b0a68dddd2ac576c0b91af5f090f4ccd06050aa86abd4530eaa4"), looks := false }, kinds := [], alts := [], laidByText := true, laidKinds := [.data, .data, .data], laidTests := true, laidLooks := .later }
def ReelLiarsUptoCardSaid : Prop := Claim7.holds Tryd.pinned (.plain (OpenSpec.upto reelLiarsSpec)) reelLiarsUptoCard

/-- THE SECOND FORM's CARD OF 'bijoulaw01.ReelPut'. -/
def reelPutUptoCard : Claim7 := { stood := { row := reelPutUptoRow, standIns := [], harness := (true, "260240c9f9b2b0a68dddd2ac576c0b91af5f090f4ccd06050aa86abd4530eaa4"), looks := false }, kinds := [], alts := [], laidByText := true, laidKinds := [.data, .data, .data], laidTests := true, laidLooks := .later }
def ReelPutUptoCardSaid : Prop := Claim7.holds Tryd.pinned (.plain (OpenSpec.upto reelPutSpec)) reelPutUptoCard
end Rows
end Go.Proofs.YtbbpdlobjbpchaaDoor
