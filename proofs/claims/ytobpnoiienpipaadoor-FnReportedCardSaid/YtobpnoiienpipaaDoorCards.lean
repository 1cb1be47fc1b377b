/-
  DERIVED. GIVEN WITH THE SEED: THE CARDS: each row of YtobpnoiienpipaaDoorRows.lean that lists a variable, with what it lists TIED to the program's text (the seventh form; the later family's looks); each row that meets fmt, with fmt's text TOLD by the authors' own Lean function (tested against real Go, not proved from fmt's source: count such statements apart). THE CARD IS WHAT COUNTS. Prove the row's statement (the work); the ties are given (YtobpnoiienpipaaDoorTie.lean); close each card by the builder's one call (the guide's Derived/Test/ToyasCard.lean, 'card_holds'). Laid BY PROGRAM, IN A SANDBOX (cutbox-door.mjs). By AI agents, Wed Nov 11 2026. No macro, syntax, notation, axiom, sorry.
-/
import Derived.Test.YtobpnoiienpipaaDoorRows
import GoSem.ClaimSeven
namespace Go.Proofs.YtobpnoiienpipaaDoor
namespace Rows

/-- THE TIED CARD OF 'laws.FnTuned'. -/
def fnTunedCard : Claim7 := { stood := { row := fnTunedRow, standIns := [], harness := (true, "a695603e8a6c1258f906385ba61e581f45c5f0d77e90701a0691865e44e87418"), looks := false }, kinds := [], alts := [], laidByText := true, laidKinds := [.listed, .data], laidTests := true, laidLooks := .later }
def FnTunedCardSaid : Prop := Claim7.holds Tryd.pinned (.plain (OpenSpec.ofChange fnTunedSpec)) fnTunedCard

/-- THE TIED CARD OF 'laws.FnTuneOne'. -/
def fnTuneOneCard : Claim7 := { stood := { row := fnTuneOneRow, standIns := [], harness := (true, "a695603e8a6c1258f906385ba61e581f45c5f0d77e90701a0691865e44e87418"), looks := false }, kinds := [], alts := [], laidByText := true, laidKinds := [.listed, .data], laidTests := true, laidLooks := .later }
def FnTuneOneCardSaid : Prop := Claim7.holds Tryd.pinned (.plain (OpenSpec.ofChange fnTuneOneSpec)) fnTuneOneCard

/-- THE TIED CARD OF 'laws.FnReported'. -/
def fnReportedCard : Claim7 := { stood := { row := fnReportedRow, standIns := [], harness := (true, "a695603e8a6c1258f906385ba61e581f45c5f0d77e90701a0691865e44e87418"), looks := false }, kinds := [], alts := [], laidByText := true, laidKinds := [.data, .data, .data, .listed, .data], laidTests := true, laidLooks := .later }
def FnReportedCardSaid : Prop := Claim7.holds Tryd.pinned (.plain (OpenSpec.ofChange fnReportedSpec)) fnReportedCard

/-- THE TIED CARD OF 'laws.FnExactTune'. -/
def fnExactTuneCard : Claim7 := { stood := { row := fnExactTuneRow, standIns := [], harness := (true, "a695603e8a6c1258f906385ba61e581f45c5f0d77e90701a0691865e44e87418"), looks := false }, kinds := [], alts := [], laidByText := true, laidKinds := [.listed, .data], laidTests := true, laidLooks := .later }
def FnExactTuneCardSaid : Prop := Claim7.holds Tryd.pinned (.plain (OpenSpec.ofChange fnExactTuneSpec)) fnExactTuneCard

/-- THE TIED CARD OF 'laws.FnExactTuneAll'. -/
def fnExactTuneAllCard : Claim7 := { stood := { row := fnExactTuneAllRow, standIns := [], harness := (true, "a695603e8a6c1258f906385ba61e581f45c5f0d77e90701a0691865e44e87418"), looks := false }, kinds := [], alts := [], laidByText := true, laidKinds := [.listed, .data], laidTests := true, laidLooks := .later }
def FnExactTuneAllCardSaid : Prop := Claim7.holds Tryd.pinned (.plain (OpenSpec.ofChange fnExactTuneAllSpec)) fnExactTuneAllCard

/-- THE TIED CARD OF 'laws.FnExactRetune'. -/
def fnExactRetuneCard : Claim7 := { stood := { row := fnExactRetuneRow, standIns := [], harness := (true, "a695603e8a6c1258f906385ba61e581f45c5f0d77e90701a0691865e44e87418"), looks := false }, kinds := [], alts := [], laidByText := true, laidKinds := [.listed, .data], laidTests := true, laidLooks := .later }
def FnExactRetuneCardSaid : Prop := Claim7.holds Tryd.pinned (.plain (OpenSpec.ofChange fnExactRetuneSpec)) fnExactRetuneCard

/-- THE TIED CARD OF 'laws.FnExactReport'. -/
def fnExactReportCard : Claim7 := { stood := { row := fnExactReportRow, standIns := [], harness := (true, "a695603e8a6c1258f906385ba61e581f45c5f0d77e90701a0691865e44e87418"), looks := false }, kinds := [], alts := [], laidByText := true, laidKinds := [.data, .data, .data], laidTests := true, laidLooks := .later }
def FnExactReportCardSaid : Prop := Claim7.holds Tryd.pinned (.plain (OpenSpec.ofChange fnExactReportSpec)) fnExactReportCard

/-- THE SECOND FORM's CARD OF 'laws.FnTuned'. -/
def fnTunedUptoCard : Claim7 := { stood := { row := fnTunedUptoRow, standIns := [], harness := (true, "a695603e8a6c1258f906385ba61e581f45c5f0d77e90701a0691865e44e87418"), looks := false }, kinds := [], alts := [], laidByText := true, laidKinds := [.listed, .data], laidTests := true, laidLooks := .later }
def FnTunedUptoCardSaid : Prop := Claim7.holds Tryd.pinned (.plain (OpenSpec.upto fnTunedSpec)) fnTunedUptoCard

/-- THE SECOND FORM's CARD OF 'laws.FnTuneOne'. -/
def fnTuneOneUptoCard : Claim7 := { stood := { row := fnTuneOneUptoRow, standIns := [], harness := (true, "a695603e8a6c1258f906385ba61e581f45c5f0d77e90701a0691865e44e87418"), looks := false }, kinds := [], alts := [], laidByText := true, laidKinds := [.listed, .data], laidTests := true, laidLooks := .later }
def FnTuneOneUptoCardSaid : Prop := Claim7.holds Tryd.pinned (.plain (OpenSpec.upto fnTuneOneSpec)) fnTuneOneUptoCard

/-- THE SECOND FORM's CARD OF 'laws.FnReported'. -/
def fnReportedUptoCard : Claim7 := { stood := { row := fnReportedUptoRow, standIns := [], harness := (true, "a695603e8a6c1258f906385ba61e581f45c5f0d77e90701a0691865e44e87418"), looks := false }, kinds := [], alts := [], laidByText := true, laidKinds := [.data, .data, .data, .listed, .data], laidTests := true, laidLooks := .later }
def FnReportedUptoCardSaid : Prop := Claim7.holds Tryd.pinned (.plain (OpenSpec.upto fnReportedSpec)) fnReportedUptoCard

/-- THE SECOND FORM's CARD OF 'laws.FnExactTune'. -/
def fnExactTuneUptoCard : Claim7 := { stood := { row := fnExactTuneUptoRow, standIns := [], harness := (true, "a695603e8a6c1258f906385ba61e581f45c5f0d77e90701a0691865e44e87418"), looks := false }, kinds := [], alts := [], laidByText := true, laidKinds := [.listed, .data], laidTests := true, laidLooks := .later }
def FnExactTuneUptoCardSaid : Prop := Claim7.holds Tryd.pinned (.plain (OpenSpec.upto fnExactTuneSpec)) fnExactTuneUptoCard

/-- THE SECOND FORM's CARD OF 'laws.FnExactTuneAll'. -/
def fnExactTuneAllUptoCard : Claim7 := { stood := { row := fnExactTuneAllUptoRow, standIns := [], harness := (true, "a695603e8a6c1258f906385ba61e581f45c5f0d77e90701a0691865e44e87418"), looks := false }, kinds := [], alts := [], laidByText := true, laidKinds := [.listed, .data], laidTests := true, laidLooks := .later }
def FnExactTuneAllUptoCardSaid : Prop := Claim7.holds Tryd.pinned (.plain (OpenSpec.upto fnExactTuneAllSpec)) fnExactTuneAllUptoCard

/-- THE SECOND FORM's CARD OF 'laws.FnExactRetune'. -/
def fnExactRetuneUptoCard : Claim7 := { stood := { row := fnExactRetuneUptoRow, standIns := [], harness := (true, "a695603e8a6c1258f906385ba61e581f45c5f0d77e90701a0691865e44e87418"), looks := false }, kinds := [], alts := [], laidByText := true, laidKinds := [.listed, .data], laidTests := true, laidLooks := .later }
def FnExactRetuneUptoCardSaid : Prop := Claim7.holds Tryd.pinned (.plain (OpenSpec.upto fnExactRetuneSpec)) fnExactRetuneUptoCard

/-- THE SECOND FORM's CARD OF 'laws.FnExactReport'. -/
def fnExactReportUptoCard : Claim7 := { stood := { row := fnExactReportUptoRow, standIns := [], harness := (true, "a695603e8a6c1258f906385ba61e581f45c5f0d77e90701a0691865e44e87418"), looks := false }, kinds := [], alts := [], laidByText := true, laidKinds := [.data, .data, .data], laidTests := true, laidLooks := .later }
def FnExactReportUptoCardSaid : Prop := Claim7.holds Tryd.pinned (.plain (OpenSpec.upto fnExactReportSpec)) fnExactReportUptoCard
end Rows
end Go.Proofs.YtobpnoiienpipaaDoor
