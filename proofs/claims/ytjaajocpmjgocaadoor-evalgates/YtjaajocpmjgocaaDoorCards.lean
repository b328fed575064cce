/-
  DERIVED. GIVEN WITH THE SEED: THE CARDS: each row of YtjaajocpmjgocaaDoorRows.lean that lists a variable, with what it lists TIED to the program's text (the seventh form; the later family's looks); each row that meets fmt, with fmt's text TOLD by the authors' own Lean function (tested against real Go, not proved from fmt's source: count such statements apart). THE CARD IS WHAT COUNTS. Prove the row's statement (the work); the ties are given (YtjaajocpmjgocaaDoorTie.lean); close each card by the builder's one call (the guide's Derived/Test/ToyasCard.lean, 'card_holds'). Laid BY PROGRAM, IN A SANDBOX (cutbox-door.mjs). By AI agents, Wed Nov 11 2026. No macro, syntax, notation, axiom, sorry.
-/
import Derived.Test.YtjaajocpmjgocaaDoorRows
import GoSem.ClaimSeven
namespace Go.Proofs.YtjaajocpmjgocaaDoor
namespace Rows

/-- THE TIED CARD OF 'parterrelaw02.EvalGates'. -/
def evalGatesCard : Claim7 := { stood := { row := evalGatesRow, standIns := [], harness := (true, "6117b0b2402a72f02a63978f4e1c10453660c37b7af780f6f053a32caa75172f"), looks := false }, kinds := [], alts := [], laidByText := true, laidKinds := [.data, .data], laidTests := true, laidLooks := .later }
def EvalGatesCardSaid : Prop := Claim7.holds Tryd.pinned (.plain (OpenSpec.ofChange evalGatesSpec)) evalGatesCard

/-- THE TIED CARD OF 'parterrelaw02.EvalAll'. -/
def evalAllCard : Claim7 := { stood := { row := evalAllRow, standIns := [], harness := (true, "6117b0b2402a72f02a63978f4e1c10453660c37b7af780f6f053a32caa75172f"), looks := false }, kinds := [], alts := [], laidByText := true, laidKinds := [.data, .data], laidTests := true, laidLooks := .later }
def EvalAllCardSaid : Prop := Claim7.holds Tryd.pinned (.plain (OpenSpec.ofChange evalAllSpec)) evalAllCard

/-- THE SECOND FORM's CARD OF 'parterrelaw02.EvalGates'. -/
def evalGatesUptoCard : Claim7 := { stood := { row := evalGatesUptoRow, standIns := [], harness := (true, "6117b0b2402a72f02a63978f4e1c10453660c37b7af780f6f053a32caa75172f"), looks := false }, kinds := [], alts := [], laidByText := true, laidKinds := [.data, .data], laidTests := true, laidLooks := .later }
def EvalGatesUptoCardSaid : Prop := Claim7.holds Tryd.pinned (.plain (OpenSpec.upto evalGatesSpec)) evalGatesUptoCard

/-- THE SECOND FORM's CARD OF 'parterrelaw02.EvalAll'. -/
def evalAllUptoCard : Claim7 := { stood := { row := evalAllUptoRow, standIns := [], harness := (true, "6117b0b2402a72f02a63978f4e1c10453660c37b7af780f6f053a32caa75172f"), looks := false }, kinds := [], alts := [], laidByText := true, laidKinds := [.data, .data], laidTests := true, laidLooks := .later }
def EvalAllUptoCardSaid : Prop := Claim7.holds Tryd.pinned (.plain (OpenSpec.upto evalAllSpec)) evalAllUptoCard
end Rows
end Go.Proofs.YtjaajocpmjgocaaDoor
