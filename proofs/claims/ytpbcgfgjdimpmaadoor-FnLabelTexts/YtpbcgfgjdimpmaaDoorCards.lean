/-
  DERIVED. GIVEN WITH THE SEED: THE CARDS: each row of YtpbcgfgjdimpmaaDoorRows.lean that lists a variable, with what it lists TIED to the program's text (the seventh form; the later family's looks); each row that meets fmt, with fmt's text TOLD by the authors' own Lean function (tested against real Go, not proved from fmt's source: count such statements apart). THE CARD IS WHAT COUNTS. Prove the row's statement (the work); the ties are given (YtpbcgfgjdimpmaaDoorTie.lean); close each card by the builder's one call (the guide's Derived/Test/ToyasCard.lean, 'card_holds'). Laid BY PROGRAM, IN A SANDBOX (cutbox-door.mjs). By AI agents, Wed Nov 11 2026. No macro, syntax, notation, axiom, sorry.
-/
import Derived.Test.YtpbcgfgjdimpmaaDoorRows
import GoSem.ClaimSeven
namespace Go.Proofs.YtpbcgfgjdimpmaaDoor
namespace Rows

/-- THE TIED CARD OF 'laws.FnLabelTexts'. -/
def fnLabelTextsCard : Claim7 := { stood := { row := fnLabelTextsRow, standIns := [], harness := (true, "b90140308c03c8e367a390c643b7be870aefb0c5304db18f0c9422eead173c2c"), looks := true }, kinds := [], alts := [], laidByText := true, laidKinds := [.data, .data, .data, .pinned], laidTests := true, laidLooks := .later }
def FnLabelTextsCardSaid : Prop := Claim7.holds Tryd.pinned (.plain (OpenSpec.ofChange fnLabelTextsSpec)) fnLabelTextsCard

/-- THE TIED CARD OF 'laws.FnMatches'. -/
def fnMatchesCard : Claim7 := { stood := { row := fnMatchesRow, standIns := [], harness := (true, "b90140308c03c8e367a390c643b7be870aefb0c5304db18f0c9422eead173c2c"), looks := true }, kinds := [], alts := [], laidByText := true, laidKinds := [.data, .data, .data, .pinned], laidTests := true, laidLooks := .later }
def FnMatchesCardSaid : Prop := Claim7.holds Tryd.pinned (.plain (OpenSpec.ofChange fnMatchesSpec)) fnMatchesCard

/-- THE TIED CARD OF 'laws.FnMatcherTexts'. -/
def fnMatcherTextsCard : Claim7 := { stood := { row := fnMatcherTextsRow, standIns := [], harness := (true, "b90140308c03c8e367a390c643b7be870aefb0c5304db18f0c9422eead173c2c"), looks := true }, kinds := [], alts := [], laidByText := true, laidKinds := [.data, .data], laidTests := true, laidLooks := .later }
def FnMatcherTextsCardSaid : Prop := Claim7.holds Tryd.pinned (.plain (OpenSpec.ofChange fnMatcherTextsSpec)) fnMatcherTextsCard

/-- THE TIED CARD OF 'laws.FnExactReadLabels'. -/
def fnExactReadLabelsCard : Claim7 := { stood := { row := fnExactReadLabelsRow, standIns := [], harness := (true, "b90140308c03c8e367a390c643b7be870aefb0c5304db18f0c9422eead173c2c"), looks := true }, kinds := [], alts := [], laidByText := true, laidKinds := [.data, .data, .data, .pinned], laidTests := true, laidLooks := .later }
def FnExactReadLabelsCardSaid : Prop := Claim7.holds Tryd.pinned (.plain (OpenSpec.ofChange fnExactReadLabelsSpec)) fnExactReadLabelsCard

/-- THE TIED CARD OF 'laws.FnExactGoodMatchers'. -/
def fnExactGoodMatchersCard : Claim7 := { stood := { row := fnExactGoodMatchersRow, standIns := [], harness := (true, "b90140308c03c8e367a390c643b7be870aefb0c5304db18f0c9422eead173c2c"), looks := true }, kinds := [], alts := [], laidByText := true, laidKinds := [.data, .data], laidTests := true, laidLooks := .later }
def FnExactGoodMatchersCardSaid : Prop := Claim7.holds Tryd.pinned (.plain (OpenSpec.ofChange fnExactGoodMatchersSpec)) fnExactGoodMatchersCard

/-- THE TIED CARD OF 'laws.FnExactIsLike'. -/
def fnExactIsLikeCard : Claim7 := { stood := { row := fnExactIsLikeRow, standIns := [], harness := (true, "b90140308c03c8e367a390c643b7be870aefb0c5304db18f0c9422eead173c2c"), looks := true }, kinds := [], alts := [], laidByText := true, laidKinds := [.data, .data, .pinned], laidTests := true, laidLooks := .later }
def FnExactIsLikeCardSaid : Prop := Claim7.holds Tryd.pinned (.plain (OpenSpec.ofChange fnExactIsLikeSpec)) fnExactIsLikeCard

/-- THE TIED CARD OF 'laws.FnExactMatches'. -/
def fnExactMatchesCard : Claim7 := { stood := { row := fnExactMatchesRow, standIns := [], harness := (true, "b90140308c03c8e367a390c643b7be870aefb0c5304db18f0c9422eead173c2c"), looks := true }, kinds := [], alts := [], laidByText := true, laidKinds := [.data, .data], laidTests := true, laidLooks := .later }
def FnExactMatchesCardSaid : Prop := Claim7.holds Tryd.pinned (.plain (OpenSpec.ofChange fnExactMatchesSpec)) fnExactMatchesCard

/-- THE TIED CARD OF 'laws.FnExactMatchesAll'. -/
def fnExactMatchesAllCard : Claim7 := { stood := { row := fnExactMatchesAllRow, standIns := [], harness := (true, "b90140308c03c8e367a390c643b7be870aefb0c5304db18f0c9422eead173c2c"), looks := true }, kinds := [], alts := [], laidByText := true, laidKinds := [.data, .data], laidTests := true, laidLooks := .later }
def FnExactMatchesAllCardSaid : Prop := Claim7.holds Tryd.pinned (.plain (OpenSpec.ofChange fnExactMatchesAllSpec)) fnExactMatchesAllCard

/-- THE TIED CARD OF 'laws.FnExactMatcherText'. -/
def fnExactMatcherTextCard : Claim7 := { stood := { row := fnExactMatcherTextRow, standIns := [], harness := (true, "b90140308c03c8e367a390c643b7be870aefb0c5304db18f0c9422eead173c2c"), looks := true }, kinds := [], alts := [], laidByText := true, laidKinds := [.data, .data], laidTests := true, laidLooks := .later }
def FnExactMatcherTextCardSaid : Prop := Claim7.holds Tryd.pinned (.plain (OpenSpec.ofChange fnExactMatcherTextSpec)) fnExactMatcherTextCard

/-- THE TIED CARD OF 'laws.FnExactReadMatcher'. -/
def fnExactReadMatcherCard : Claim7 := { stood := { row := fnExactReadMatcherRow, standIns := [], harness := (true, "b90140308c03c8e367a390c643b7be870aefb0c5304db18f0c9422eead173c2c"), looks := true }, kinds := [], alts := [], laidByText := true, laidKinds := [.data, .data], laidTests := true, laidLooks := .later }
def FnExactReadMatcherCardSaid : Prop := Claim7.holds Tryd.pinned (.plain (OpenSpec.ofChange fnExactReadMatcherSpec)) fnExactReadMatcherCard

/-- THE TIED CARD OF 'laws.FnExactTakesNone'. -/
def fnExactTakesNoneCard : Claim7 := { stood := { row := fnExactTakesNoneRow, standIns := [], harness := (true, "b90140308c03c8e367a390c643b7be870aefb0c5304db18f0c9422eead173c2c"), looks := true }, kinds := [], alts := [], laidByText := true, laidKinds := [.data, .data], laidTests := true, laidLooks := .later }
def FnExactTakesNoneCardSaid : Prop := Claim7.holds Tryd.pinned (.plain (OpenSpec.ofChange fnExactTakesNoneSpec)) fnExactTakesNoneCard

/-- THE SECOND FORM's CARD OF 'laws.FnLabelTexts'. -/
def fnLabelTextsUptoCard : Claim7 := { stood := { row := fnLabelTextsUptoRow, standIns := [], harness := (true, "b90140308c03c8e367a390c643b7be870aefb0c5304db18f0c9422eead173c2c"), looks := true }, kinds := [], alts := [], laidByText := true, laidKinds := [.data, .data, .data, .pinned], laidTests := true, laidLooks := .later }
def FnLabelTextsUptoCardSaid : Prop := Claim7.holds Tryd.pinned (.plain (OpenSpec.upto fnLabelTextsSpec)) fnLabelTextsUptoCard

/-- THE SECOND FORM's CARD OF 'laws.FnMatches'. -/
def fnMatchesUptoCard : Claim7 := { stood := { row := fnMatchesUptoRow, standIns := [], harness := (true, "b90140308c03c8e367a390c643b7be870aefb0c5304db18f0c9422eead173c2c"), looks := true }, kinds := [], alts := [], laidByText := true, laidKinds := [.data, .data, .data, .pinned], laidTests := true, laidLooks := .later }
def FnMatchesUptoCardSaid : Prop := Claim7.holds Tryd.pinned (.plain (OpenSpec.upto fnMatchesSpec)) fnMatchesUptoCard

/-- THE SECOND FORM's CARD OF 'laws.FnMatcherTexts'. -/
def fnMatcherTextsUptoCard : Claim7 := { stood := { row := fnMatcherTextsUptoRow, standIns := [], harness := (true, "b90140308c03c8e367a390c643b7be870aefb0c5304db18f0c9422eead173c2c"), looks := true }, kinds := [], alts := [], laidByText := true, laidKinds := [.data, .data], laidTests := true, laidLooks := .later }
def FnMatcherTextsUptoCardSaid : Prop := Claim7.holds Tryd.pinned (.plain (OpenSpec.upto fnMatcherTextsSpec)) fnMatcherTextsUptoCard

/-- THE SECOND FORM's CARD OF 'laws.FnExactReadLabels'. -/
def fnExactReadLabelsUptoCard : Claim7 := { stood := { row := fnExactReadLabelsUptoRow, standIns := [], harness := (true, "b90140308c03c8e367a390c643b7be870aefb0c5304db18f0c9422eead173c2c"), looks := true }, kinds := [], alts := [], laidByText := true, laidKinds := [.data, .data, .data, .pinned], laidTests := true, laidLooks := .later }
def FnExactReadLabelsUptoCardSaid : Prop := Claim7.holds Tryd.pinned (.plain (OpenSpec.upto fnExactReadLabelsSpec)) fnExactReadLabelsUptoCard

/-- THE SECOND FORM's CARD OF 'laws.FnExactGoodMatchers'. -/
def fnExactGoodMatchersUptoCard : Claim7 := { stood := { row := fnExactGoodMatchersUptoRow, standIns := [], harness := (true, "b90140308c03c8e367a390c643b7be870aefb0c5304db18f0c9422eead173c2c"), looks := true }, kinds := [], alts := [], laidByText := true, laidKinds := [.data, .data], laidTests := true, laidLooks := .later }
def FnExactGoodMatchersUptoCardSaid : Prop := Claim7.holds Tryd.pinned (.plain (OpenSpec.upto fnExactGoodMatchersSpec)) fnExactGoodMatchersUptoCard

/-- THE SECOND FORM's CARD OF 'laws.FnExactIsLike'. -/
def fnExactIsLikeUptoCard : Claim7 := { stood := { row := fnExactIsLikeUptoRow, standIns := [], harness := (true, "b90140308c03c8e367a390c643b7be870aefb0c5304db18f0c9422eead173c2c"), looks := true }, kinds := [], alts := [], laidByText := true, laidKinds := [.data, .data, .pinned], laidTests := true, laidLooks := .later }
def FnExactIsLikeUptoCardSaid : Prop := Claim7.holds Tryd.pinned (.plain (OpenSpec.upto fnExactIsLikeSpec)) fnExactIsLikeUptoCard

/-- THE SECOND FORM's CARD OF 'laws.FnExactMatches'. -/
def fnExactMatchesUptoCard : Claim7 := { stood := { row := fnExactMatchesUptoRow, standIns := [], harness := (true, "b90140308c03c8e367a390c643b7be870aefb0c5304db18f0c9422eead173c2c"), looks := true }, kinds := [], alts := [], laidByText := true, laidKinds := [.data, .data], laidTests := true, laidLooks := .later }
def FnExactMatchesUptoCardSaid : Prop := Claim7.holds Tryd.pinned (.plain (OpenSpec.upto fnExactMatchesSpec)) fnExactMatchesUptoCard

/-- THE SECOND FORM's CARD OF 'laws.FnExactMatchesAll'. -/
def fnExactMatchesAllUptoCard : Claim7 := { stood := { row := fnExactMatchesAllUptoRow, standIns := [], harness := (true, "b90140308c03c8e367a390c643b7be870aefb0c5304db18f0c9422eead173c2c"), looks := true }, kinds := [], alts := [], laidByText := true, laidKinds := [.data, .data], laidTests := true, laidLooks := .later }
def FnExactMatchesAllUptoCardSaid : Prop := Claim7.holds Tryd.pinned (.plain (OpenSpec.upto fnExactMatchesAllSpec)) fnExactMatchesAllUptoCard

/-- THE SECOND FORM's CARD OF 'laws.FnExactMatcherText'. -/
def fnExactMatcherTextUptoCard : Claim7 := { stood := { row := fnExactMatcherTextUptoRow, standIns := [], harness := (true, "b90140308c03c8e367a390c643b7be870aefb0c5304db18f0c9422eead173c2c"), looks := true }, kinds := [], alts := [], laidByText := true, laidKinds := [.data, .data], laidTests := true, laidLooks := .later }
def FnExactMatcherTextUptoCardSaid : Prop := Claim7.holds Tryd.pinned (.plain (OpenSpec.upto fnExactMatcherTextSpec)) fnExactMatcherTextUptoCard

/-- THE SECOND FORM's CARD OF 'laws.FnExactReadMatcher'. -/
def fnExactReadMatcherUptoCard : Claim7 := { stood := { row := fnExactReadMatcherUptoRow, standIns := [], harness := (true, "b90140308c03c8e367a390c643b7be870aefb0c5304db18f0c9422eead173c2c"), looks := true }, kinds := [], alts := [], laidByText := true, laidKinds := [.data, .data], laidTests := true, laidLooks := .later }
def FnExactReadMatcherUptoCardSaid : Prop := Claim7.holds Tryd.pinned (.plain (OpenSpec.upto fnExactReadMatcherSpec)) fnExactReadMatcherUptoCard

/-- THE SECOND FORM's CARD OF 'laws.FnExactTakesNone'. -/
def fnExactTakesNoneUptoCard : Claim7 := { stood := { row := fnExactTakesNoneUptoRow, standIns := [], harness := (true, "b90140308c03c8e367a390c643b7be870aefb0c5304db18f0c9422eead173c2c"), looks := true }, kinds := [], alts := [], laidByText := true, laidKinds := [.data, .data], laidTests := true, laidLooks := .later }
def FnExactTakesNoneUptoCardSaid : Prop := Claim7.holds Tryd.pinned (.plain (OpenSpec.upto fnExactTakesNoneSpec)) fnExactTakesNoneUptoCard
end Rows
end Go.Proofs.YtpbcgfgjdimpmaaDoor
