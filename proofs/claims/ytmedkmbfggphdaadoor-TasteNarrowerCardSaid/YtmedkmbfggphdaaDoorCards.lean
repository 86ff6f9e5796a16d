/-
  DERIVED. GIVEN WITH THE SEED: THE CARDS: each row of YtmedkmbfggphdaaDoorRows.lean that lists a variable, with what it lists TIED to the program's text (the seventh form; the later family's looks); each row that meets fmt, with fmt's text TOLD by the authors' own Lean function (tested against real Go, not proved from fmt's source: count such statements apart). THE CARD IS WHAT COUNTS. Prove the row's statement (the work); the ties are given (YtmedkmbfggphdaaDoorTie.lean); close each card by the builder's one call (the guide's Derived/Test/ToyasCard.lean, 'card_holds'). Laid BY PROGRAM, IN A SANDBOX (cutbox-door.mjs). By AI agents, Wed Nov 11 2026. No macro, syntax, notation, axiom, sorry.
-/
import Derived.Test.YtmedkmbfggphdaaDoorRows
import GoSem.ClaimSeven
namespace Go.Proofs.YtmedkmbfggphdaaDoor
namespace Rows

/-- THE TIED CARD OF 'senvylaw01.TasteBooks'. -/
def tasteBooksCard : Claim7 := { stood := { row := tasteBooksRow, standIns := [], harness := (true, "991e462a20187a076076ccc8c8e37c3842623529a883eeca7d45bd36e1a9abec"), looks := false }, kinds := [], alts := [], laidByText := true, laidKinds := [.data, .data, .data, .data], laidTests := true, laidLooks := .later }
def TasteBooksCardSaid : Prop := Claim7.holds Tryd.pinned (.plain (OpenSpec.ofChange tasteBooksSpec)) tasteBooksCard

/-- THE TIED CARD OF 'senvylaw01.TasteTruths'. -/
def tasteTruthsCard : Claim7 := { stood := { row := tasteTruthsRow, standIns := [], harness := (true, "991e462a20187a076076ccc8c8e37c3842623529a883eeca7d45bd36e1a9abec"), looks := false }, kinds := [], alts := [], laidByText := true, laidKinds := [.data, .data, .data, .data], laidTests := true, laidLooks := .later }
def TasteTruthsCardSaid : Prop := Claim7.holds Tryd.pinned (.plain (OpenSpec.ofChange tasteTruthsSpec)) tasteTruthsCard

/-- THE TIED CARD OF 'senvylaw01.TasteSpans'. -/
def tasteSpansCard : Claim7 := { stood := { row := tasteSpansRow, standIns := [], harness := (true, "991e462a20187a076076ccc8c8e37c3842623529a883eeca7d45bd36e1a9abec"), looks := false }, kinds := [], alts := [], laidByText := true, laidKinds := [.data, .data, .data, .data], laidTests := true, laidLooks := .later }
def TasteSpansCardSaid : Prop := Claim7.holds Tryd.pinned (.plain (OpenSpec.ofChange tasteSpansSpec)) tasteSpansCard

/-- THE TIED CARD OF 'senvylaw01.TasteRounds'. -/
def tasteRoundsCard : Claim7 := { stood := { row := tasteRoundsRow, standIns := [], harness := (true, "991e462a20187a076076ccc8c8e37c3842623529a883eeca7d45bd36e1a9abec"), looks := false }, kinds := [], alts := [], laidByText := true, laidKinds := [.data, .data, .data, .data], laidTests := true, laidLooks := .later }
def TasteRoundsCardSaid : Prop := Claim7.holds Tryd.pinned (.plain (OpenSpec.ofChange tasteRoundsSpec)) tasteRoundsCard

/-- THE TIED CARD OF 'senvylaw01.TasteWrongs'. -/
def tasteWrongsCard : Claim7 := { stood := { row := tasteWrongsRow, standIns := [], harness := (true, "991e462a20187a076076ccc8c8e37c3842623529a883eeca7d45bd36e1a9abec"), looks := false }, kinds := [], alts := [], laidByText := true, laidKinds := [.data, .data, .data, .data], laidTests := true, laidLooks := .later }
def TasteWrongsCardSaid : Prop := Claim7.holds Tryd.pinned (.plain (OpenSpec.ofChange tasteWrongsSpec)) tasteWrongsCard

/-- THE TIED CARD OF 'senvylaw01.TasteEither'. -/
def tasteEitherCard : Claim7 := { stood := { row := tasteEitherRow, standIns := [], harness := (true, "991e462a20187a076076ccc8c8e37c3842623529a883eeca7d45bd36e1a9abec"), looks := false }, kinds := [], alts := [], laidByText := true, laidKinds := [.data, .data, .data, .data], laidTests := true, laidLooks := .later }
def TasteEitherCardSaid : Prop := Claim7.holds Tryd.pinned (.plain (OpenSpec.ofChange tasteEitherSpec)) tasteEitherCard

/-- THE TIED CARD OF 'senvylaw01.TasteHeld'. -/
def tasteHeldCard : Claim7 := { stood := { row := tasteHeldRow, standIns := [], harness := (true, "991e462a20187a076076ccc8c8e37c3842623529a883eeca7d45bd36e1a9abec"), looks := false }, kinds := [], alts := [], laidByText := true, laidKinds := [.data, .data, .data, .data], laidTests := true, laidLooks := .later }
def TasteHeldCardSaid : Prop := Claim7.holds Tryd.pinned (.plain (OpenSpec.ofChange tasteHeldSpec)) tasteHeldCard

/-- THE TIED CARD OF 'senvylaw01.TasteReached'. -/
def tasteReachedCard : Claim7 := { stood := { row := tasteReachedRow, standIns := [], harness := (true, "991e462a20187a076076ccc8c8e37c3842623529a883eeca7d45bd36e1a9abec"), looks := false }, kinds := [], alts := [], laidByText := true, laidKinds := [.data, .data, .data, .data], laidTests := true, laidLooks := .later }
def TasteReachedCardSaid : Prop := Claim7.holds Tryd.pinned (.plain (OpenSpec.ofChange tasteReachedSpec)) tasteReachedCard

/-- THE TIED CARD OF 'senvylaw01.TasteBoth'. -/
def tasteBothCard : Claim7 := { stood := { row := tasteBothRow, standIns := [], harness := (true, "991e462a20187a076076ccc8c8e37c3842623529a883eeca7d45bd36e1a9abec"), looks := false }, kinds := [], alts := [], laidByText := true, laidKinds := [.data, .data, .data, .data], laidTests := true, laidLooks := .later }
def TasteBothCardSaid : Prop := Claim7.holds Tryd.pinned (.plain (OpenSpec.ofChange tasteBothSpec)) tasteBothCard

/-- THE TIED CARD OF 'senvylaw01.TasteApart'. -/
def tasteApartCard : Claim7 := { stood := { row := tasteApartRow, standIns := [], harness := (true, "991e462a20187a076076ccc8c8e37c3842623529a883eeca7d45bd36e1a9abec"), looks := false }, kinds := [], alts := [], laidByText := true, laidKinds := [.data, .data, .data, .data], laidTests := true, laidLooks := .later }
def TasteApartCardSaid : Prop := Claim7.holds Tryd.pinned (.plain (OpenSpec.ofChange tasteApartSpec)) tasteApartCard

/-- THE TIED CARD OF 'senvylaw01.TasteNarrower'. -/
def tasteNarrowerCard : Claim7 := { stood := { row := tasteNarrowerRow, standIns := [], harness := (true, "991e462a20187a076076ccc8c8e37c3842623529a883eeca7d45bd36e1a9abec"), looks := false }, kinds := [], alts := [], laidByText := true, laidKinds := [.data, .data, .data, .data], laidTests := true, laidLooks := .later }
def TasteNarrowerCardSaid : Prop := Claim7.holds Tryd.pinned (.plain (OpenSpec.ofChange tasteNarrowerSpec)) tasteNarrowerCard

/-- THE TIED CARD OF 'senvylaw01.TasteAlone'. -/
def tasteAloneCard : Claim7 := { stood := { row := tasteAloneRow, standIns := [], harness := (true, "991e462a20187a076076ccc8c8e37c3842623529a883eeca7d45bd36e1a9abec"), looks := false }, kinds := [], alts := [], laidByText := true, laidKinds := [.data, .data, .data, .data], laidTests := true, laidLooks := .later }
def TasteAloneCardSaid : Prop := Claim7.holds Tryd.pinned (.plain (OpenSpec.ofChange tasteAloneSpec)) tasteAloneCard

/-- THE TIED CARD OF 'senvylaw01.TasteMoved'. -/
def tasteMovedCard : Claim7 := { stood := { row := tasteMovedRow, standIns := [], harness := (true, "991e462a20187a076076ccc8c8e37c3842623529a883eeca7d45bd36e1a9abec"), looks := false }, kinds := [], alts := [], laidByText := true, laidKinds := [.data, .data, .data, .data], laidTests := true, laidLooks := .later }
def TasteMovedCardSaid : Prop := Claim7.holds Tryd.pinned (.plain (OpenSpec.ofChange tasteMovedSpec)) tasteMovedCard

/-- THE TIED CARD OF 'senvylaw01.TasteOrder'. -/
def tasteOrderCard : Claim7 := { stood := { row := tasteOrderRow, standIns := [], harness := (true, "991e462a20187a076076ccc8c8e37c3842623529a883eeca7d45bd36e1a9abec"), looks := false }, kinds := [], alts := [], laidByText := true, laidKinds := [.data, .data, .data, .data], laidTests := true, laidLooks := .later }
def TasteOrderCardSaid : Prop := Claim7.holds Tryd.pinned (.plain (OpenSpec.ofChange tasteOrderSpec)) tasteOrderCard

/-- THE TIED CARD OF 'senvylaw01.TasteWrong'. -/
def tasteWrongCard : Claim7 := { stood := { row := tasteWrongRow, standIns := [], harness := (true, "991e462a20187a076076ccc8c8e37c3842623529a883eeca7d45bd36e1a9abec"), looks := false }, kinds := [], alts := [], laidByText := true, laidKinds := [.data, .data, .data, .data], laidTests := true, laidLooks := .later }
def TasteWrongCardSaid : Prop := Claim7.holds Tryd.pinned (.plain (OpenSpec.ofChange tasteWrongSpec)) tasteWrongCard

/-- THE TIED CARD OF 'senvylaw01.TasteKnown'. -/
def tasteKnownCard : Claim7 := { stood := { row := tasteKnownRow, standIns := [], harness := (true, "991e462a20187a076076ccc8c8e37c3842623529a883eeca7d45bd36e1a9abec"), looks := false }, kinds := [], alts := [], laidByText := true, laidKinds := [.data, .data, .data, .data], laidTests := true, laidLooks := .later }
def TasteKnownCardSaid : Prop := Claim7.holds Tryd.pinned (.plain (OpenSpec.ofChange tasteKnownSpec)) tasteKnownCard

/-- THE SECOND FORM's CARD OF 'senvylaw01.TasteBooks'. -/
def tasteBooksUptoCard : Claim7 := { stood := { row := tasteBooksUptoRow, standIns := [], harness := (true, "991e462a20187a076076ccc8c8e37c3842623529a883eeca7d45bd36e1a9abec"), looks := false }, kinds := [], alts := [], laidByText := true, laidKinds := [.data, .data, .data, .data], laidTests := true, laidLooks := .later }
def TasteBooksUptoCardSaid : Prop := Claim7.holds Tryd.pinned (.plain (OpenSpec.upto tasteBooksSpec)) tasteBooksUptoCard

/-- THE SECOND FORM's CARD OF 'senvylaw01.TasteTruths'. -/
def tasteTruthsUptoCard : Claim7 := { stood := { row := tasteTruthsUptoRow, standIns := [], harness := (true, "991e462a20187a076076ccc8c8e37c3842623529a883eeca7d45bd36e1a9abec"), looks := false }, kinds := [], alts := [], laidByText := true, laidKinds := [.data, .data, .data, .data], laidTests := true, laidLooks := .later }
def TasteTruthsUptoCardSaid : Prop := Claim7.holds Tryd.pinned (.plain (OpenSpec.upto tasteTruthsSpec)) tasteTruthsUptoCard

/-- THE SECOND FORM's CARD OF 'senvylaw01.TasteSpans'. -/
def tasteSpansUptoCard : Claim7 := { stood := { row := tasteSpansUptoRow, standIns := [], harness := (true, "991e462a20187a076076ccc8c8e37c3842623529a883eeca7d45bd36e1a9abec"), looks := false }, kinds := [], alts := [], laidByText := true, laidKinds := [.data, .data, .data, .data], laidTests := true, laidLooks := .later }
def TasteSpansUptoCardSaid : Prop := Claim7.holds Tryd.pinned (.plain (OpenSpec.upto tasteSpansSpec)) tasteSpansUptoCard

/-- THE SECOND FORM's CARD OF 'senvylaw01.TasteRounds'. -/
def tasteRoundsUptoCard : Claim7 := { stood := { row := tasteRoundsUptoRow, standIns := [], harness := (true, "991e462a20187a076076ccc8c8e37c3842623529a883eeca7d45bd36e1a9abec"), looks := false }, kinds := [], alts := [], laidByText := true, laidKinds := [.data, .data, .data, .data], laidTests := true, laidLooks := .later }
def TasteRoundsUptoCardSaid : Prop := Claim7.holds Tryd.pinned (.plain (OpenSpec.upto tasteRoundsSpec)) tasteRoundsUptoCard

/-- THE SECOND FORM's CARD OF 'senvylaw01.TasteWrongs'. -/
def tasteWrongsUptoCard : Claim7 := { stood := { row := tasteWrongsUptoRow, standIns := [], harness := (true, "991e462a20187a076076ccc8c8e37c3842623529a883eeca7d45bd36e1a9abec"), looks := false }, kinds := [], alts := [], laidByText := true, laidKinds := [.data, .data, .data, .data], laidTests := true, laidLooks := .later }
def TasteWrongsUptoCardSaid : Prop := Claim7.holds Tryd.pinned (.plain (OpenSpec.upto tasteWrongsSpec)) tasteWrongsUptoCard

/-- THE SECOND FORM's CARD OF 'senvylaw01.TasteEither'. -/
def tasteEitherUptoCard : Claim7 := { stood := { row := tasteEitherUptoRow, standIns := [], harness := (true, "991e462a20187a076076ccc8c8e37c3842623529a883eeca7d45bd36e1a9abec"), looks := false }, kinds := [], alts := [], laidByText := true, laidKinds := [.data, .data, .data, .data], laidTests := true, laidLooks := .later }
def TasteEitherUptoCardSaid : Prop := Claim7.holds Tryd.pinned (.plain (OpenSpec.upto tasteEitherSpec)) tasteEitherUptoCard

/-- THE SECOND FORM's CARD OF 'senvylaw01.TasteHeld'. -/
def tasteHeldUptoCard : Claim7 := { stood := { row := tasteHeldUptoRow, standIns := [], harness := (true, "991e462a20187a076076ccc8c8e37c3842623529a883eeca7d45bd36e1a9abec"), looks := false }, kinds := [], alts := [], laidByText := true, laidKinds := [.data, .data, .data, .data], laidTests := true, laidLooks := .later }
def TasteHeldUptoCardSaid : Prop := Claim7.holds Tryd.pinned (.plain (OpenSpec.upto tasteHeldSpec)) tasteHeldUptoCard

/-- THE SECOND FORM's CARD OF 'senvylaw01.TasteReached'. -/
def tasteReachedUptoCard : Claim7 := { stood := { row := tasteReachedUptoRow, standIns := [], harness := (true, "991e462a20187a076076ccc8c8e37c3842623529a883eeca7d45bd36e1a9abec"), looks := false }, kinds := [], alts := [], laidByText := true, laidKinds := [.data, .data, .data, .data], laidTests := true, laidLooks := .later }
def TasteReachedUptoCardSaid : Prop := Claim7.holds Tryd.pinned (.plain (OpenSpec.upto tasteReachedSpec)) tasteReachedUptoCard

/-- THE SECOND FORM's CARD OF 'senvylaw01.TasteBoth'. -/
def tasteBothUptoCard : Claim7 := { stood := { row := tasteBothUptoRow, standIns := [], harness := (true, "991e462a20187a076076ccc8c8e37c3842623529a883eeca7d45bd36e1a9abec"), looks := false }, kinds := [], alts := [], laidByText := true, laidKinds := [.data, .data, .data, .data], laidTests := true, laidLooks := .later }
def TasteBothUptoCardSaid : Prop := Claim7.holds Tryd.pinned (.plain (OpenSpec.upto tasteBothSpec)) tasteBothUptoCard

/-- THE SECOND FORM's CARD OF 'senvylaw01.TasteApart'. -/
def tasteApartUptoCard : Claim7 := { stood := { row := tasteApartUptoRow, standIns := [], harness := (true, "991e462a20187a076076ccc8c8e37c3842623529a883eeca7d45bd36e1a9abec"), looks := false }, kinds := [], alts := [], laidByText := true, laidKinds := [.data, .data, .data, .data], laidTests := true, laidLooks := .later }
def TasteApartUptoCardSaid : Prop := Claim7.holds Tryd.pinned (.plain (OpenSpec.upto tasteApartSpec)) tasteApartUptoCard

/-- THE SECOND FORM's CARD OF 'senvylaw01.TasteNarrower'. -/
def tasteNarrowerUptoCard : Claim7 := { stood := { row := tasteNarrowerUptoRow, standIns := [], harness := (true, "991e462a20187a076076ccc8c8e37c3842623529a883eeca7d45bd36e1a9abec"), looks := false }, kinds := [], alts := [], laidByText := true, laidKinds := [.data, .data, .data, .data], laidTests := true, laidLooks := .later }
def TasteNarrowerUptoCardSaid : Prop := Claim7.holds Tryd.pinned (.plain (OpenSpec.upto tasteNarrowerSpec)) tasteNarrowerUptoCard

/-- THE SECOND FORM's CARD OF 'senvylaw01.TasteAlone'. -/
def tasteAloneUptoCard : Claim7 := { stood := { row := tasteAloneUptoRow, standIns := [], harness := (true, "991e462a20187a076076ccc8c8e37c3842623529a883eeca7d45bd36e1a9abec"), looks := false }, kinds := [], alts := [], laidByText := true, laidKinds := [.data, .data, .data, .data], laidTests := true, laidLooks := .later }
def TasteAloneUptoCardSaid : Prop := Claim7.holds Tryd.pinned (.plain (OpenSpec.upto tasteAloneSpec)) tasteAloneUptoCard

/-- THE SECOND FORM's CARD OF 'senvylaw01.TasteMoved'. -/
def tasteMovedUptoCard : Claim7 := { stood := { row := tasteMovedUptoRow, standIns := [], harness := (true, "991e462a20187a076076ccc8c8e37c3842623529a883eeca7d45bd36e1a9abec"), looks := false }, kinds := [], alts := [], laidByText := true, laidKinds := [.data, .data, .data, .data], laidTests := true, laidLooks := .later }
def TasteMovedUptoCardSaid : Prop := Claim7.holds Tryd.pinned (.plain (OpenSpec.upto tasteMovedSpec)) tasteMovedUptoCard

/-- THE SECOND FORM's CARD OF 'senvylaw01.TasteOrder'. -/
def tasteOrderUptoCard : Claim7 := { stood := { row := tasteOrderUptoRow, standIns := [], harness := (true, "991e462a20187a076076ccc8c8e37c3842623529a883eeca7d45bd36e1a9abec"), looks := false }, kinds := [], alts := [], laidByText := true, laidKinds := [.data, .data, .data, .data], laidTests := true, laidLooks := .later }
def TasteOrderUptoCardSaid : Prop := Claim7.holds Tryd.pinned (.plain (OpenSpec.upto tasteOrderSpec)) tasteOrderUptoCard

/-- THE SECOND FORM's CARD OF 'senvylaw01.TasteWrong'. -/
def tasteWrongUptoCard : Claim7 := { stood := { row := tasteWrongUptoRow, standIns := [], harness := (true, "991e462a20187a076076ccc8c8e37c3842623529a883eeca7d45bd36e1a9abec"), looks := false }, kinds := [], alts := [], laidByText := true, laidKinds := [.data, .data, .data, .data], laidTests := true, laidLooks := .later }
def TasteWrongUptoCardSaid : Prop := Claim7.holds Tryd.pinned (.plain (OpenSpec.upto tasteWrongSpec)) tasteWrongUptoCard

/-- THE SECOND FORM's CARD OF 'senvylaw01.TasteKnown'. -/
def tasteKnownUptoCard : Claim7 := { stood := { row := tasteKnownUptoRow, standIns := [], harness := (true, "991e462a20187a076076ccc8c8e37c3842623529a883eeca7d45bd36e1a9abec"), looks := false }, kinds := [], alts := [], laidByText := true, laidKinds := [.data, .data, .data, .data], laidTests := true, laidLooks := .later }
def TasteKnownUptoCardSaid : Prop := Claim7.holds Tryd.pinned (.plain (OpenSpec.upto tasteKnownSpec)) tasteKnownUptoCard
end Rows
end Go.Proofs.YtmedkmbfggphdaaDoor
