/-
  DERIVED. GIVEN WITH THE SEED: THE CARDS: each row of YtpbbjklacgkcgaaDoorRows.lean that lists a variable, with what it lists TIED to the program's text (the seventh form; the later family's looks); each row that meets fmt, with fmt's text TOLD by the authors' own Lean function (tested against real Go, not proved from fmt's source: count such statements apart). THE CARD IS WHAT COUNTS. Prove the row's statement (the work); the ties are given (YtpbbjklacgkcgaaDoorTie.lean); close each card by the builder's one call (the guide's Derived/Test/ToyasCard.lean, 'card_holds'). Laid BY PROGRAM, IN A SANDBOX (cutbox-door.mjs). By AI agents, Wed Nov 11 2026. No macro, syntax, notation, axiom, sorry.
-/
import Derived.Test.YtpbbjklacgkcgaaDoorRows
import GoSem.ClaimSeven
namespace Go.Proofs.YtpbbjklacgkcgaaDoor
namespace Rows

/-- THE TIED CARD OF 'parterrelaw02.EvalAny'. -/
def evalAnyCard : Claim7 := { stood := { row := evalAnyRow, standIns := [], harness := (true, "62b085970bff47eac87cebf614fd6461fcd8c942931b7d21ee7501d19cbd1f82"), looks := false }, kinds := [], alts := [], laidByText := true, laidKinds := [.data, .data], laidTests := true, laidLooks := .later }
def EvalAnyCardSaid : Prop := Claim7.holds Tryd.pinned (.plain (OpenSpec.ofChange evalAnySpec)) evalAnyCard

/-- THE TIED CARD OF 'parterrelaw02.EvalMade'. -/
def evalMadeCard : Claim7 := { stood := { row := evalMadeRow, standIns := [], harness := (true, "62b085970bff47eac87cebf614fd6461fcd8c942931b7d21ee7501d19cbd1f82"), looks := false }, kinds := [], alts := [], laidByText := true, laidKinds := [.data, .data], laidTests := true, laidLooks := .later }
def EvalMadeCardSaid : Prop := Claim7.holds Tryd.pinned (.plain (OpenSpec.ofChange evalMadeSpec)) evalMadeCard

/-- THE TIED CARD OF 'parterrelaw02.EvalThree'. -/
def evalThreeCard : Claim7 := { stood := { row := evalThreeRow, standIns := [], harness := (true, "62b085970bff47eac87cebf614fd6461fcd8c942931b7d21ee7501d19cbd1f82"), looks := false }, kinds := [], alts := [], laidByText := true, laidKinds := [.data, .data], laidTests := true, laidLooks := .later }
def EvalThreeCardSaid : Prop := Claim7.holds Tryd.pinned (.plain (OpenSpec.ofChange evalThreeSpec)) evalThreeCard

/-- THE TIED CARD OF 'parterrelaw02.EvalGates'. -/
def evalGatesCard : Claim7 := { stood := { row := evalGatesRow, standIns := [], harness := (true, "62b085970bff47eac87cebf614fd6461fcd8c942931b7d21ee7501d19cbd1f82"), looks := false }, kinds := [], alts := [], laidByText := true, laidKinds := [.data, .data], laidTests := true, laidLooks := .later }
def EvalGatesCardSaid : Prop := Claim7.holds Tryd.pinned (.plain (OpenSpec.ofChange evalGatesSpec)) evalGatesCard

/-- THE TIED CARD OF 'parterrelaw02.EvalAll'. -/
def evalAllCard : Claim7 := { stood := { row := evalAllRow, standIns := [], harness := (true, "62b085970bff47eac87cebf614fd6461fcd8c942931b7d21ee7501d19cbd1f82"), looks := false }, kinds := [], alts := [], laidByText := true, laidKinds := [.data, .data], laidTests := true, laidLooks := .later }
def EvalAllCardSaid : Prop := Claim7.holds Tryd.pinned (.plain (OpenSpec.ofChange evalAllSpec)) evalAllCard

/-- THE TIED CARD OF 'parterrelaw02.EvalLess'. -/
def evalLessCard : Claim7 := { stood := { row := evalLessRow, standIns := [], harness := (true, "62b085970bff47eac87cebf614fd6461fcd8c942931b7d21ee7501d19cbd1f82"), looks := false }, kinds := [], alts := [], laidByText := true, laidKinds := [.data, .data], laidTests := true, laidLooks := .later }
def EvalLessCardSaid : Prop := Claim7.holds Tryd.pinned (.plain (OpenSpec.ofChange evalLessSpec)) evalLessCard

/-- THE SECOND FORM's CARD OF 'parterrelaw02.EvalAny'. -/
def evalAnyUptoCard : Claim7 := { stood := { row := evalAnyUptoRow, standIns := [], harness := (true, "62b085970bff47eac87cebf614fd6461fcd8c942931b7d21ee7501d19cbd1f82"), looks := false }, kinds := [], alts := [], laidByText := true, laidKinds := [.data, .data], laidTests := true, laidLooks := .later }
def EvalAnyUptoCardSaid : Prop := Claim7.holds Tryd.pinned (.plain (OpenSpec.upto evalAnySpec)) evalAnyUptoCard

/-- THE SECOND FORM's CARD OF 'parterrelaw02.EvalMade'. -/
def evalMadeUptoCard : Claim7 := { stood := { row := evalMadeUptoRow, standIns := [], harness := (true, "62b085970bff47eac87cebf614fd6461fcd8c942931b7d21ee7501d19cbd1f82"), looks := false }, kinds := [], alts := [], laidByText := true, laidKinds := [.data, .data], laidTests := true, laidLooks := .later }
def EvalMadeUptoCardSaid : Prop := Claim7.holds Tryd.pinned (.plain (OpenSpec.upto evalMadeSpec)) evalMadeUptoCard

/-- THE SECOND FORM's CARD OF 'parterrelaw02.EvalThree'. -/
def evalThreeUptoCard : Claim7 := { stood := { row := evalThreeUptoRow, standIns := [], harness := (true, "62b085970bff47eac87cebf614fd6461fcd8c942931b7d21ee7501d19cbd1f82"), looks := false }, kinds := [], alts := [], laidByText := true, laidKinds := [.data, .data], laidTests := true, laidLooks := .later }
def EvalThreeUptoCardSaid : Prop := Claim7.holds Tryd.pinned (.plain (OpenSpec.upto evalThreeSpec)) evalThreeUptoCard

/-- THE SECOND FORM's CARD OF 'parterrelaw02.EvalGates'. -/
def evalGatesUptoCard : Claim7 := { stood := { row := evalGatesUptoRow, standIns := [], harness := (true, "62b085970bff47eac87cebf614fd6461fcd8c942931b7d21ee7501d19cbd1f82"), looks := false }, kinds := [], alts := [], laidByText := true, laidKinds := [.data, .data], laidTests := true, laidLooks := .later }
def EvalGatesUptoCardSaid : Prop := Claim7.holds Tryd.pinned (.plain (OpenSpec.upto evalGatesSpec)) evalGatesUptoCard

/-- THE SECOND FORM's CARD OF 'parterrelaw02.EvalAll'. -/
def evalAllUptoCard : Claim7 := { stood := { row := evalAllUptoRow, standIns := [], harness := (true, "62b085970bff47eac87cebf614fd6461fcd8c942931b7d21ee7501d19cbd1f82"), looks := false }, kinds := [], alts := [], laidByText := true, laidKinds := [.data, .data], laidTests := true, laidLooks := .later }
def EvalAllUptoCardSaid : Prop := Claim7.holds Tryd.pinned (.plain (OpenSpec.upto evalAllSpec)) evalAllUptoCard

/-- THE SECOND FORM's CARD OF 'parterrelaw02.EvalLess'. -/
def evalLessUptoCard : Claim7 := { stood := { row := evalLessUptoRow, standIns := [], harness := (true, "62b085970bff47eac87cebf614fd6461fcd8c942931b7d21ee7501d19cbd1f82"), looks := false }, kinds := [], alts := [], laidByText := true, laidKinds := [.data, .data], laidTests := true, laidLooks := .later }
def EvalLessUptoCardSaid : Prop := Claim7.holds Tryd.pinned (.plain (OpenSpec.upto evalLessSpec)) evalLessUptoCard
end Rows
end Go.Proofs.YtpbbjklacgkcgaaDoor
