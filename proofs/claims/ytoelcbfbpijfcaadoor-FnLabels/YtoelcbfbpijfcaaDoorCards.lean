/-
  DERIVED. GIVEN WITH THE SEED: THE CARDS: each row of YtoelcbfbpijfcaaDoorRows.lean that lists a variable, with what it lists TIED to the program's text (the seventh form; the later family's looks); each row that meets fmt, with fmt's text TOLD by the authors' own Lean function (tested against real Go, not proved from fmt's source: count such statements apart). THE CARD IS WHAT COUNTS. Prove the row's statement (the work); the ties are given (YtoelcbfbpijfcaaDoorTie.lean); close each card by the builder's one call (the guide's Derived/Test/ToyasCard.lean, 'card_holds'). Laid BY PROGRAM, IN A SANDBOX (cutbox-door.mjs). By AI agents, Wed Nov 11 2026. No macro, syntax, notation, axiom, sorry.
-/
import Derived.Test.YtoelcbfbpijfcaaDoorRows
import GoSem.ClaimSeven
namespace Go.Proofs.YtoelcbfbpijfcaaDoor
namespace Rows

/-- THE TIED CARD OF 'laws.FnLabels'. -/
def fnLabelsCard : Claim7 := { stood := { row := fnLabelsRow, standIns := [], harness := (true, "da7d8e3851f9c0915d018b2a622af50e6b56444ed2467f8b14bf51cfea18d210"), looks := false }, kinds := [], alts := [], laidByText := true, laidKinds := [.data, .data], laidTests := true, laidLooks := .later }
def FnLabelsCardSaid : Prop := Claim7.holds Tryd.pinned (.plain (OpenSpec.ofChange fnLabelsSpec)) fnLabelsCard

/-- THE TIED CARD OF 'laws.FnLabelTexts'. -/
def fnLabelTextsCard : Claim7 := { stood := { row := fnLabelTextsRow, standIns := [], harness := (true, "da7d8e3851f9c0915d018b2a622af50e6b56444ed2467f8b14bf51cfea18d210"), looks := false }, kinds := [], alts := [], laidByText := true, laidKinds := [.data, .data, .data, .pinned], laidTests := true, laidLooks := .later }
def FnLabelTextsCardSaid : Prop := Claim7.holds Tryd.pinned (.plain (OpenSpec.ofChange fnLabelTextsSpec)) fnLabelTextsCard

/-- THE TIED CARD OF 'laws.FnExactGoodName'. -/
def fnExactGoodNameCard : Claim7 := { stood := { row := fnExactGoodNameRow, standIns := [], harness := (true, "da7d8e3851f9c0915d018b2a622af50e6b56444ed2467f8b14bf51cfea18d210"), looks := false }, kinds := [], alts := [], laidByText := true, laidKinds := [.data], laidTests := true, laidLooks := .later }
def FnExactGoodNameCardSaid : Prop := Claim7.holds Tryd.pinned (.plain (OpenSpec.ofChange fnExactGoodNameSpec)) fnExactGoodNameCard

/-- THE TIED CARD OF 'laws.FnExactGoodLabels'. -/
def fnExactGoodLabelsCard : Claim7 := { stood := { row := fnExactGoodLabelsRow, standIns := [], harness := (true, "da7d8e3851f9c0915d018b2a622af50e6b56444ed2467f8b14bf51cfea18d210"), looks := false }, kinds := [], alts := [], laidByText := true, laidKinds := [.data, .data], laidTests := true, laidLooks := .later }
def FnExactGoodLabelsCardSaid : Prop := Claim7.holds Tryd.pinned (.plain (OpenSpec.ofChange fnExactGoodLabelsSpec)) fnExactGoodLabelsCard

/-- THE TIED CARD OF 'laws.FnExactSortLabels'. -/
def fnExactSortLabelsCard : Claim7 := { stood := { row := fnExactSortLabelsRow, standIns := [], harness := (true, "da7d8e3851f9c0915d018b2a622af50e6b56444ed2467f8b14bf51cfea18d210"), looks := false }, kinds := [], alts := [], laidByText := true, laidKinds := [.data, .data], laidTests := true, laidLooks := .later }
def FnExactSortLabelsCardSaid : Prop := Claim7.holds Tryd.pinned (.plain (OpenSpec.ofChange fnExactSortLabelsSpec)) fnExactSortLabelsCard

/-- THE TIED CARD OF 'laws.FnExactCompareLabels'. -/
def fnExactCompareLabelsCard : Claim7 := { stood := { row := fnExactCompareLabelsRow, standIns := [], harness := (true, "da7d8e3851f9c0915d018b2a622af50e6b56444ed2467f8b14bf51cfea18d210"), looks := false }, kinds := [], alts := [], laidByText := true, laidKinds := [.data, .data], laidTests := true, laidLooks := .later }
def FnExactCompareLabelsCardSaid : Prop := Claim7.holds Tryd.pinned (.plain (OpenSpec.ofChange fnExactCompareLabelsSpec)) fnExactCompareLabelsCard

/-- THE TIED CARD OF 'laws.FnExactLabelsText'. -/
def fnExactLabelsTextCard : Claim7 := { stood := { row := fnExactLabelsTextRow, standIns := [], harness := (true, "da7d8e3851f9c0915d018b2a622af50e6b56444ed2467f8b14bf51cfea18d210"), looks := false }, kinds := [], alts := [], laidByText := true, laidKinds := [.data, .data], laidTests := true, laidLooks := .later }
def FnExactLabelsTextCardSaid : Prop := Claim7.holds Tryd.pinned (.plain (OpenSpec.ofChange fnExactLabelsTextSpec)) fnExactLabelsTextCard

/-- THE TIED CARD OF 'laws.FnExactReadLabels'. -/
def fnExactReadLabelsCard : Claim7 := { stood := { row := fnExactReadLabelsRow, standIns := [], harness := (true, "da7d8e3851f9c0915d018b2a622af50e6b56444ed2467f8b14bf51cfea18d210"), looks := false }, kinds := [], alts := [], laidByText := true, laidKinds := [.data, .data, .data, .pinned], laidTests := true, laidLooks := .later }
def FnExactReadLabelsCardSaid : Prop := Claim7.holds Tryd.pinned (.plain (OpenSpec.ofChange fnExactReadLabelsSpec)) fnExactReadLabelsCard

/-- THE TIED CARD OF 'laws.FnExactHashLabels'. -/
def fnExactHashLabelsCard : Claim7 := { stood := { row := fnExactHashLabelsRow, standIns := [], harness := (true, "da7d8e3851f9c0915d018b2a622af50e6b56444ed2467f8b14bf51cfea18d210"), looks := false }, kinds := [], alts := [], laidByText := true, laidKinds := [.data, .data], laidTests := true, laidLooks := .later }
def FnExactHashLabelsCardSaid : Prop := Claim7.holds Tryd.pinned (.plain (OpenSpec.ofChange fnExactHashLabelsSpec)) fnExactHashLabelsCard

/-- THE TIED CARD OF 'laws.FnExactIsFor'. -/
def fnExactIsForCard : Claim7 := { stood := { row := fnExactIsForRow, standIns := [], harness := (true, "da7d8e3851f9c0915d018b2a622af50e6b56444ed2467f8b14bf51cfea18d210"), looks := false }, kinds := [], alts := [], laidByText := true, laidKinds := [.data, .data], laidTests := true, laidLooks := .later }
def FnExactIsForCardSaid : Prop := Claim7.holds Tryd.pinned (.plain (OpenSpec.ofChange fnExactIsForSpec)) fnExactIsForCard

/-- THE TIED CARD OF 'laws.FnExactWithoutNames'. -/
def fnExactWithoutNamesCard : Claim7 := { stood := { row := fnExactWithoutNamesRow, standIns := [], harness := (true, "da7d8e3851f9c0915d018b2a622af50e6b56444ed2467f8b14bf51cfea18d210"), looks := false }, kinds := [], alts := [], laidByText := true, laidKinds := [.data, .data], laidTests := true, laidLooks := .later }
def FnExactWithoutNamesCardSaid : Prop := Claim7.holds Tryd.pinned (.plain (OpenSpec.ofChange fnExactWithoutNamesSpec)) fnExactWithoutNamesCard

/-- THE SECOND FORM's CARD OF 'laws.FnLabels'. -/
def fnLabelsUptoCard : Claim7 := { stood := { row := fnLabelsUptoRow, standIns := [], harness := (true, "da7d8e3851f9c0915d018b2a622af50e6b56444ed2467f8b14bf51cfea18d210"), looks := false }, kinds := [], alts := [], laidByText := true, laidKinds := [.data, .data], laidTests := true, laidLooks := .later }
def FnLabelsUptoCardSaid : Prop := Claim7.holds Tryd.pinned (.plain (OpenSpec.upto fnLabelsSpec)) fnLabelsUptoCard

/-- THE SECOND FORM's CARD OF 'laws.FnLabelTexts'. -/
def fnLabelTextsUptoCard : Claim7 := { stood := { row := fnLabelTextsUptoRow, standIns := [], harness := (true, "da7d8e3851f9c0915d018b2a622af50e6b56444ed2467f8b14bf51cfea18d210"), looks := false }, kinds := [], alts := [], laidByText := true, laidKinds := [.data, .data, .data, .pinned], laidTests := true, laidLooks := .later }
def FnLabelTextsUptoCardSaid : Prop := Claim7.holds Tryd.pinned (.plain (OpenSpec.upto fnLabelTextsSpec)) fnLabelTextsUptoCard

/-- THE SECOND FORM's CARD OF 'laws.FnExactGoodName'. -/
def fnExactGoodNameUptoCard : Claim7 := { stood := { row := fnExactGoodNameUptoRow, standIns := [], harness := (true, "da7d8e3851f9c0915d018b2a622af50e6b56444ed2467f8b14bf51cfea18d210"), looks := false }, kinds := [], alts := [], laidByText := true, laidKinds := [.data], laidTests := true, laidLooks := .later }
def FnExactGoodNameUptoCardSaid : Prop := Claim7.holds Tryd.pinned (.plain (OpenSpec.upto fnExactGoodNameSpec)) fnExactGoodNameUptoCard

/-- THE SECOND FORM's CARD OF 'laws.FnExactGoodLabels'. -/
def fnExactGoodLabelsUptoCard : Claim7 := { stood := { row := fnExactGoodLabelsUptoRow, standIns := [], harness := (true, "da7d8e3851f9c0915d018b2a622af50e6b56444ed2467f8b14bf51cfea18d210"), looks := false }, kinds := [], alts := [], laidByText := true, laidKinds := [.data, .data], laidTests := true, laidLooks := .later }
def FnExactGoodLabelsUptoCardSaid : Prop := Claim7.holds Tryd.pinned (.plain (OpenSpec.upto fnExactGoodLabelsSpec)) fnExactGoodLabelsUptoCard

/-- THE SECOND FORM's CARD OF 'laws.FnExactSortLabels'. -/
def fnExactSortLabelsUptoCard : Claim7 := { stood := { row := fnExactSortLabelsUptoRow, standIns := [], harness := (true, "da7d8e3851f9c0915d018b2a622af50e6b56444ed2467f8b14bf51cfea18d210"), looks := false }, kinds := [], alts := [], laidByText := true, laidKinds := [.data, .data], laidTests := true, laidLooks := .later }
def FnExactSortLabelsUptoCardSaid : Prop := Claim7.holds Tryd.pinned (.plain (OpenSpec.upto fnExactSortLabelsSpec)) fnExactSortLabelsUptoCard

/-- THE SECOND FORM's CARD OF 'laws.FnExactCompareLabels'. -/
def fnExactCompareLabelsUptoCard : Claim7 := { stood := { row := fnExactCompareLabelsUptoRow, standIns := [], harness := (true, "da7d8e3851f9c0915d018b2a622af50e6b56444ed2467f8b14bf51cfea18d210"), looks := false }, kinds := [], alts := [], laidByText := true, laidKinds := [.data, .data], laidTests := true, laidLooks := .later }
def FnExactCompareLabelsUptoCardSaid : Prop := Claim7.holds Tryd.pinned (.plain (OpenSpec.upto fnExactCompareLabelsSpec)) fnExactCompareLabelsUptoCard

/-- THE SECOND FORM's CARD OF 'laws.FnExactLabelsText'. -/
def fnExactLabelsTextUptoCard : Claim7 := { stood := { row := fnExactLabelsTextUptoRow, standIns := [], harness := (true, "da7d8e3851f9c0915d018b2a622af50e6b56444ed2467f8b14bf51cfea18d210"), looks := false }, kinds := [], alts := [], laidByText := true, laidKinds := [.data, .data], laidTests := true, laidLooks := .later }
def FnExactLabelsTextUptoCardSaid : Prop := Claim7.holds Tryd.pinned (.plain (OpenSpec.upto fnExactLabelsTextSpec)) fnExactLabelsTextUptoCard

/-- THE SECOND FORM's CARD OF 'laws.FnExactReadLabels'. -/
def fnExactReadLabelsUptoCard : Claim7 := { stood := { row := fnExactReadLabelsUptoRow, standIns := [], harness := (true, "da7d8e3851f9c0915d018b2a622af50e6b56444ed2467f8b14bf51cfea18d210"), looks := false }, kinds := [], alts := [], laidByText := true, laidKinds := [.data, .data, .data, .pinned], laidTests := true, laidLooks := .later }
def FnExactReadLabelsUptoCardSaid : Prop := Claim7.holds Tryd.pinned (.plain (OpenSpec.upto fnExactReadLabelsSpec)) fnExactReadLabelsUptoCard

/-- THE SECOND FORM's CARD OF 'laws.FnExactHashLabels'. -/
def fnExactHashLabelsUptoCard : Claim7 := { stood := { row := fnExactHashLabelsUptoRow, standIns := [], harness := (true, "da7d8e3851f9c0915d018b2a622af50e6b56444ed2467f8b14bf51cfea18d210"), looks := false }, kinds := [], alts := [], laidByText := true, laidKinds := [.data, .data], laidTests := true, laidLooks := .later }
def FnExactHashLabelsUptoCardSaid : Prop := Claim7.holds Tryd.pinned (.plain (OpenSpec.upto fnExactHashLabelsSpec)) fnExactHashLabelsUptoCard

/-- THE SECOND FORM's CARD OF 'laws.FnExactIsFor'. -/
def fnExactIsForUptoCard : Claim7 := { stood := { row := fnExactIsForUptoRow, standIns := [], harness := (true, "da7d8e3851f9c0915d018b2a622af50e6b56444ed2467f8b14bf51cfea18d210"), looks := false }, kinds := [], alts := [], laidByText := true, laidKinds := [.data, .data], laidTests := true, laidLooks := .later }
def FnExactIsForUptoCardSaid : Prop := Claim7.holds Tryd.pinned (.plain (OpenSpec.upto fnExactIsForSpec)) fnExactIsForUptoCard

/-- THE SECOND FORM's CARD OF 'laws.FnExactWithoutNames'. -/
def fnExactWithoutNamesUptoCard : Claim7 := { stood := { row := fnExactWithoutNamesUptoRow, standIns := [], harness := (true, "da7d8e3851f9c0915d018b2a622af50e6b56444ed2467f8b14bf51cfea18d210"), looks := false }, kinds := [], alts := [], laidByText := true, laidKinds := [.data, .data], laidTests := true, laidLooks := .later }
def FnExactWithoutNamesUptoCardSaid : Prop := Claim7.holds Tryd.pinned (.plain (OpenSpec.upto fnExactWithoutNamesSpec)) fnExactWithoutNamesUptoCard
end Rows
end Go.Proofs.YtoelcbfbpijfcaaDoor
