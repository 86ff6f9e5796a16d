/-
  DERIVED. GIVEN WITH THE SEED: THE CARDS: each row of YtgpfmnjianflaaaDoorRows.lean that lists a variable, with what it lists TIED to the program's text (the seventh form; the later family's looks); each row that meets fmt, with fmt's text TOLD by the authors' own Lean function (tested against real Go, not proved from fmt's source: count such statements apart). THE CARD IS WHAT COUNTS. Prove the row's statement (the work); the ties are given (YtgpfmnjianflaaaDoorTie.lean); close each card by the builder's one call (the guide's Derived/Test/ToyasCard.lean, 'card_holds'). Laid BY PROGRAM, IN A SANDBOX (cutbox-door.mjs). By AI agents, Wed Nov 11 2026. No macro, syntax, notation, axiom, sorry.
-/
import Derived.Test.YtgpfmnjianflaaaDoorRows
import GoSem.ClaimSeven
namespace Go.Proofs.YtgpfmnjianflaaaDoor
namespace Rows

/-- THE TIED CARD OF 'senvylaw03.BlendLots'. -/
def blendLotsCard : Claim7 := { stood := { row := blendLotsRow, standIns := [], harness := (true, "f65b95764fddd8918c93ff747706f33a295397101015d0e2db6e8c8f9d62082c"), looks := false }, kinds := [], alts := [], laidByText := true, laidKinds := [.data, .data, .data, .data, .data, .data, .data], laidTests := true, laidLooks := .later }
def BlendLotsCardSaid : Prop := Claim7.holds Tryd.pinned (.plain (OpenSpec.ofChange blendLotsSpec)) blendLotsCard

/-- THE TIED CARD OF 'senvylaw03.BlendPrices'. -/
def blendPricesCard : Claim7 := { stood := { row := blendPricesRow, standIns := [], harness := (true, "f65b95764fddd8918c93ff747706f33a295397101015d0e2db6e8c8f9d62082c"), looks := false }, kinds := [], alts := [], laidByText := true, laidKinds := [.data, .data, .data, .data, .data, .data, .data], laidTests := true, laidLooks := .later }
def BlendPricesCardSaid : Prop := Claim7.holds Tryd.pinned (.plain (OpenSpec.ofChange blendPricesSpec)) blendPricesCard

/-- THE TIED CARD OF 'senvylaw03.BlendLines'. -/
def blendLinesCard : Claim7 := { stood := { row := blendLinesRow, standIns := [], harness := (true, "f65b95764fddd8918c93ff747706f33a295397101015d0e2db6e8c8f9d62082c"), looks := false }, kinds := [], alts := [], laidByText := true, laidKinds := [.data, .data, .data, .data, .data, .data, .data], laidTests := true, laidLooks := .later }
def BlendLinesCardSaid : Prop := Claim7.holds Tryd.pinned (.plain (OpenSpec.ofChange blendLinesSpec)) blendLinesCard

/-- THE TIED CARD OF 'senvylaw03.BlendCorners'. -/
def blendCornersCard : Claim7 := { stood := { row := blendCornersRow, standIns := [], harness := (true, "f65b95764fddd8918c93ff747706f33a295397101015d0e2db6e8c8f9d62082c"), looks := false }, kinds := [], alts := [], laidByText := true, laidKinds := [.data, .data, .data, .data, .data, .data, .data], laidTests := true, laidLooks := .later }
def BlendCornersCardSaid : Prop := Claim7.holds Tryd.pinned (.plain (OpenSpec.ofChange blendCornersSpec)) blendCornersCard

/-- THE TIED CARD OF 'senvylaw03.BlendProved'. -/
def blendProvedCard : Claim7 := { stood := { row := blendProvedRow, standIns := [], harness := (true, "f65b95764fddd8918c93ff747706f33a295397101015d0e2db6e8c8f9d62082c"), looks := false }, kinds := [], alts := [], laidByText := true, laidKinds := [.data, .data, .data, .data, .data, .data, .data], laidTests := true, laidLooks := .later }
def BlendProvedCardSaid : Prop := Claim7.holds Tryd.pinned (.plain (OpenSpec.ofChange blendProvedSpec)) blendProvedCard

/-- THE TIED CARD OF 'senvylaw03.BlendMixed'. -/
def blendMixedCard : Claim7 := { stood := { row := blendMixedRow, standIns := [], harness := (true, "f65b95764fddd8918c93ff747706f33a295397101015d0e2db6e8c8f9d62082c"), looks := false }, kinds := [], alts := [], laidByText := true, laidKinds := [.data, .data, .data, .data, .data, .data, .data], laidTests := true, laidLooks := .later }
def BlendMixedCardSaid : Prop := Claim7.holds Tryd.pinned (.plain (OpenSpec.ofChange blendMixedSpec)) blendMixedCard

/-- THE TIED CARD OF 'senvylaw03.BlendLeast'. -/
def blendLeastCard : Claim7 := { stood := { row := blendLeastRow, standIns := [], harness := (true, "f65b95764fddd8918c93ff747706f33a295397101015d0e2db6e8c8f9d62082c"), looks := false }, kinds := [], alts := [], laidByText := true, laidKinds := [.data, .data, .data, .data, .data, .data, .data], laidTests := true, laidLooks := .later }
def BlendLeastCardSaid : Prop := Claim7.holds Tryd.pinned (.plain (OpenSpec.ofChange blendLeastSpec)) blendLeastCard

/-- THE TIED CARD OF 'senvylaw03.BlendIdle'. -/
def blendIdleCard : Claim7 := { stood := { row := blendIdleRow, standIns := [], harness := (true, "f65b95764fddd8918c93ff747706f33a295397101015d0e2db6e8c8f9d62082c"), looks := false }, kinds := [], alts := [], laidByText := true, laidKinds := [.data, .data, .data, .data, .data, .data, .data], laidTests := true, laidLooks := .later }
def BlendIdleCardSaid : Prop := Claim7.holds Tryd.pinned (.plain (OpenSpec.ofChange blendIdleSpec)) blendIdleCard

/-- THE TIED CARD OF 'senvylaw03.BlendMore'. -/
def blendMoreCard : Claim7 := { stood := { row := blendMoreRow, standIns := [], harness := (true, "f65b95764fddd8918c93ff747706f33a295397101015d0e2db6e8c8f9d62082c"), looks := false }, kinds := [], alts := [], laidByText := true, laidKinds := [.data, .data, .data, .data, .data, .data, .data], laidTests := true, laidLooks := .later }
def BlendMoreCardSaid : Prop := Claim7.holds Tryd.pinned (.plain (OpenSpec.ofChange blendMoreSpec)) blendMoreCard

/-- THE TIED CARD OF 'senvylaw03.BlendMoved'. -/
def blendMovedCard : Claim7 := { stood := { row := blendMovedRow, standIns := [], harness := (true, "f65b95764fddd8918c93ff747706f33a295397101015d0e2db6e8c8f9d62082c"), looks := false }, kinds := [], alts := [], laidByText := true, laidKinds := [.data, .data, .data, .data, .data, .data, .data], laidTests := true, laidLooks := .later }
def BlendMovedCardSaid : Prop := Claim7.holds Tryd.pinned (.plain (OpenSpec.ofChange blendMovedSpec)) blendMovedCard

/-- THE TIED CARD OF 'senvylaw03.BlendTurned'. -/
def blendTurnedCard : Claim7 := { stood := { row := blendTurnedRow, standIns := [], harness := (true, "f65b95764fddd8918c93ff747706f33a295397101015d0e2db6e8c8f9d62082c"), looks := false }, kinds := [], alts := [], laidByText := true, laidKinds := [.data, .data, .data, .data, .data, .data, .data], laidTests := true, laidLooks := .later }
def BlendTurnedCardSaid : Prop := Claim7.holds Tryd.pinned (.plain (OpenSpec.ofChange blendTurnedSpec)) blendTurnedCard

/-- THE TIED CARD OF 'senvylaw03.BlendLost'. -/
def blendLostCard : Claim7 := { stood := { row := blendLostRow, standIns := [], harness := (true, "f65b95764fddd8918c93ff747706f33a295397101015d0e2db6e8c8f9d62082c"), looks := false }, kinds := [], alts := [], laidByText := true, laidKinds := [.data, .data, .data, .data, .data, .data, .data], laidTests := true, laidLooks := .later }
def BlendLostCardSaid : Prop := Claim7.holds Tryd.pinned (.plain (OpenSpec.ofChange blendLostSpec)) blendLostCard

/-- THE TIED CARD OF 'senvylaw03.BlendKnown'. -/
def blendKnownCard : Claim7 := { stood := { row := blendKnownRow, standIns := [], harness := (true, "f65b95764fddd8918c93ff747706f33a295397101015d0e2db6e8c8f9d62082c"), looks := false }, kinds := [], alts := [], laidByText := true, laidKinds := [.data, .data, .data, .data, .data, .data, .data], laidTests := true, laidLooks := .later }
def BlendKnownCardSaid : Prop := Claim7.holds Tryd.pinned (.plain (OpenSpec.ofChange blendKnownSpec)) blendKnownCard

/-- THE SECOND FORM's CARD OF 'senvylaw03.BlendLots'. -/
def blendLotsUptoCard : Claim7 := { stood := { row := blendLotsUptoRow, standIns := [], harness := (true, "f65b95764fddd8918c93ff747706f33a295397101015d0e2db6e8c8f9d62082c"), looks := false }, kinds := [], alts := [], laidByText := true, laidKinds := [.data, .data, .data, .data, .data, .data, .data], laidTests := true, laidLooks := .later }
def BlendLotsUptoCardSaid : Prop := Claim7.holds Tryd.pinned (.plain (OpenSpec.upto blendLotsSpec)) blendLotsUptoCard

/-- THE SECOND FORM's CARD OF 'senvylaw03.BlendPrices'. -/
def blendPricesUptoCard : Claim7 := { stood := { row := blendPricesUptoRow, standIns := [], harness := (true, "f65b95764fddd8918c93ff747706f33a295397101015d0e2db6e8c8f9d62082c"), looks := false }, kinds := [], alts := [], laidByText := true, laidKinds := [.data, .data, .data, .data, .data, .data, .data], laidTests := true, laidLooks := .later }
def BlendPricesUptoCardSaid : Prop := Claim7.holds Tryd.pinned (.plain (OpenSpec.upto blendPricesSpec)) blendPricesUptoCard

/-- THE SECOND FORM's CARD OF 'senvylaw03.BlendLines'. -/
def blendLinesUptoCard : Claim7 := { stood := { row := blendLinesUptoRow, standIns := [], harness := (true, "f65b95764fddd8918c93ff747706f33a295397101015d0e2db6e8c8f9d62082c"), looks := false }, kinds := [], alts := [], laidByText := true, laidKinds := [.data, .data, .data, .data, .data, .data, .data], laidTests := true, laidLooks := .later }
def BlendLinesUptoCardSaid : Prop := Claim7.holds Tryd.pinned (.plain (OpenSpec.upto blendLinesSpec)) blendLinesUptoCard

/-- THE SECOND FORM's CARD OF 'senvylaw03.BlendCorners'. -/
def blendCornersUptoCard : Claim7 := { stood := { row := blendCornersUptoRow, standIns := [], harness := (true, "f65b95764fddd8918c93ff747706f33a295397101015d0e2db6e8c8f9d62082c"), looks := false }, kinds := [], alts := [], laidByText := true, laidKinds := [.data, .data, .data, .data, .data, .data, .data], laidTests := true, laidLooks := .later }
def BlendCornersUptoCardSaid : Prop := Claim7.holds Tryd.pinned (.plain (OpenSpec.upto blendCornersSpec)) blendCornersUptoCard

/-- THE SECOND FORM's CARD OF 'senvylaw03.BlendProved'. -/
def blendProvedUptoCard : Claim7 := { stood := { row := blendProvedUptoRow, standIns := [], harness := (true, "f65b95764fddd8918c93ff747706f33a295397101015d0e2db6e8c8f9d62082c"), looks := false }, kinds := [], alts := [], laidByText := true, laidKinds := [.data, .data, .data, .data, .data, .data, .data], laidTests := true, laidLooks := .later }
def BlendProvedUptoCardSaid : Prop := Claim7.holds Tryd.pinned (.plain (OpenSpec.upto blendProvedSpec)) blendProvedUptoCard

/-- THE SECOND FORM's CARD OF 'senvylaw03.BlendMixed'. -/
def blendMixedUptoCard : Claim7 := { stood := { row := blendMixedUptoRow, standIns := [], harness := (true, "f65b95764fddd8918c93ff747706f33a295397101015d0e2db6e8c8f9d62082c"), looks := false }, kinds := [], alts := [], laidByText := true, laidKinds := [.data, .data, .data, .data, .data, .data, .data], laidTests := true, laidLooks := .later }
def BlendMixedUptoCardSaid : Prop := Claim7.holds Tryd.pinned (.plain (OpenSpec.upto blendMixedSpec)) blendMixedUptoCard

/-- THE SECOND FORM's CARD OF 'senvylaw03.BlendLeast'. -/
def blendLeastUptoCard : Claim7 := { stood := { row := blendLeastUptoRow, standIns := [], harness := (true, "f65b95764fddd8918c93ff747706f33a295397101015d0e2db6e8c8f9d62082c"), looks := false }, kinds := [], alts := [], laidByText := true, laidKinds := [.data, .data, .data, .data, .data, .data, .data], laidTests := true, laidLooks := .later }
def BlendLeastUptoCardSaid : Prop := Claim7.holds Tryd.pinned (.plain (OpenSpec.upto blendLeastSpec)) blendLeastUptoCard

/-- THE SECOND FORM's CARD OF 'senvylaw03.BlendIdle'. -/
def blendIdleUptoCard : Claim7 := { stood := { row := blendIdleUptoRow, standIns := [], harness := (true, "f65b95764fddd8918c93ff747706f33a295397101015d0e2db6e8c8f9d62082c"), looks := false }, kinds := [], alts := [], laidByText := true, laidKinds := [.data, .data, .data, .data, .data, .data, .data], laidTests := true, laidLooks := .later }
def BlendIdleUptoCardSaid : Prop := Claim7.holds Tryd.pinned (.plain (OpenSpec.upto blendIdleSpec)) blendIdleUptoCard

/-- THE SECOND FORM's CARD OF 'senvylaw03.BlendMore'. -/
def blendMoreUptoCard : Claim7 := { stood := { row := blendMoreUptoRow, standIns := [], harness := (true, "f65b95764fddd8918c93ff747706f33a295397101015d0e2db6e8c8f9d62082c"), looks := false }, kinds := [], alts := [], laidByText := true, laidKinds := [.data, .data, .data, .data, .data, .data, .data], laidTests := true, laidLooks := .later }
def BlendMoreUptoCardSaid : Prop := Claim7.holds Tryd.pinned (.plain (OpenSpec.upto blendMoreSpec)) blendMoreUptoCard

/-- THE SECOND FORM's CARD OF 'senvylaw03.BlendMoved'. -/
def blendMovedUptoCard : Claim7 := { stood := { row := blendMovedUptoRow, standIns := [], harness := (true, "f65b95764fddd8918c93ff747706f33a295397101015d0e2db6e8c8f9d62082c"), looks := false }, kinds := [], alts := [], laidByText := true, laidKinds := [.data, .data, .data, .data, .data, .data, .data], laidTests := true, laidLooks := .later }
def BlendMovedUptoCardSaid : Prop := Claim7.holds Tryd.pinned (.plain (OpenSpec.upto blendMovedSpec)) blendMovedUptoCard

/-- THE SECOND FORM's CARD OF 'senvylaw03.BlendTurned'. -/
def blendTurnedUptoCard : Claim7 := { stood := { row := blendTurnedUptoRow, standIns := [], harness := (true, "f65b95764fddd8918c93ff747706f33a295397101015d0e2db6e8c8f9d62082c"), looks := false }, kinds := [], alts := [], laidByText := true, laidKinds := [.data, .data, .data, .data, .data, .data, .data], laidTests := true, laidLooks := .later }
def BlendTurnedUptoCardSaid : Prop := Claim7.holds Tryd.pinned (.plain (OpenSpec.upto blendTurnedSpec)) blendTurnedUptoCard

/-- THE SECOND FORM's CARD OF 'senvylaw03.BlendLost'. -/
def blendLostUptoCard : Claim7 := { stood := { row := blendLostUptoRow, standIns := [], harness := (true, "f65b95764fddd8918c93ff747706f33a295397101015d0e2db6e8c8f9d62082c"), looks := false }, kinds := [], alts := [], laidByText := true, laidKinds := [.data, .data, .data, .data, .data, .data, .data], laidTests := true, laidLooks := .later }
def BlendLostUptoCardSaid : Prop := Claim7.holds Tryd.pinned (.plain (OpenSpec.upto blendLostSpec)) blendLostUptoCard

/-- THE SECOND FORM's CARD OF 'senvylaw03.BlendKnown'. -/
def blendKnownUptoCard : Claim7 := { stood := { row := blendKnownUptoRow, standIns := [], harness := (true, "f65b95764fddd8918c93ff747706f33a295397101015d0e2db6e8c8f9d62082c"), looks := false }, kinds := [], alts := [], laidByText := true, laidKinds := [.data, .data, .data, .data, .data, .data, .data], laidTests := true, laidLooks := .later }
def BlendKnownUptoCardSaid : Prop := Claim7.holds Tryd.pinned (.plain (OpenSpec.upto blendKnownSpec)) blendKnownUptoCard
end Rows
end Go.Proofs.YtgpfmnjianflaaaDoor
