/-
  NARROWER THAN 'FOR EVERY INPUT', by the rows' own cells (each row's printed sentence says how): TokenAny: laid · TokenSmall: laid · TokenBack: laid · TokenParts: laid.
  DERIVED. THE GIVEN ROWS OF THIS SEAT. 4 by the template 'for every input the law returns true; each argument reads behind the call as it read before'; 0 by the template 'total and deterministic' (their statements: YtnkondmpekbblaaDoorTotals.lean).
  GIVEN WITH THE SEED: the statements are not yours to turn. If you find one false, say at which input.
  Laid BY PROGRAM, IN A SANDBOX (cutbox-rows.mjs): the forced cells as the released guide's own fill.sh prints them over the translation 015df631190fa3fa… (all of the seat's roots in one cut). By AI agents, Wed Nov 11 2026. No macro, syntax, notation, axiom, sorry.
-/
import Derived.Test.YtnkondmpekbblaaDoorChecked
import GoSem.Claim
import GoSem.ClaimJoined
import GoSem.ClaimMapViews
import Derived.JoinedTies
import Derived.KernelRfl
namespace Go.Proofs.YtnkondmpekbblaaDoor
/- THE CELL 'sum', in the pinned program and in every row, IS THE sha256 OF THE DUMP (.gsa) THAT YtnkondmpekbblaaDoorProg.lean LOADS. Nothing in Lean hashes anything: it is a label: what it is worth is what the hold of that sum in a sandbox is worth. -/
noncomputable def Tryd.pinned : Pinned := { name := "ytnkondmpekbblaadoor", sum := "015df631190fa3faa7afadf717954f419ad301ef75d7053b70eb0f2bc74f0308", checked := Tryd.checked }
namespace Rows
def none {H : Type} : Left H := { results := [], args := [] }

/- WHAT THE LISTED PACKAGE-LEVEL VARIABLES READ AS WHEN THE CALL BEGINS. Each datum BY PROGRAM (the guide's laid-datum.mjs) off the statement by which the dump's own 'gosem.cut.vars' lays the variable. In a bare row this is a premise. The card (YtnkondmpekbblaaDoorCards.lean) ties it to the program's text. -/
def laid_parterre_token_signs {H : Type} : DataW H := .agg [.lit (.string [60, 45, 62]), .lit (.string [45, 62]), .lit (.string [33]), .lit (.string [38]), .lit (.string [124]), .lit (.string [40]), .lit (.string [41]), .lit (.string [91]), .lit (.string [93])]

/-- 'parterrelaw07.TokenAny': WHATEVER THE INPUT: true; the input reads as it did. -/
def tokenAnySpec : ChangeSpec := { name := "tokenAny", fn := fun _ => fun
  | [d] => { results := [.lit (.bool true)], args := [d] }
  | _ => none }
def tokenAnyRow : OpenClaim := { program := "ytnkondmpekbblaadoor", sum := "015df631190fa3faa7afadf717954f419ad301ef75d7053b70eb0f2bc74f0308", func := "parterre/parterrelaw07.TokenAny", spec := "tokenAny", inPlace := ["internal/bytealg.IndexByteString"], unfollowed := true, recurses := true, named := ["parterre/token.signs"], apart := false, laid := [("parterre/token.signs", laid_parterre_token_signs)] }
def TokenAnySaid : Prop := tokenAnyRow.holds Tryd.pinned (OpenSpec.ofChange tokenAnySpec)

/-- ITS FALSE NEIGHBOUR: 'it returns false'. Refute it at one input. -/
def tokenAnyWrong : ChangeSpec := { name := "tokenAny", fn := fun _ => fun
  | [d] => { results := [.lit (.bool false)], args := [d] }
  | _ => none }
def TokenAnyWrongFalsely : Prop := tokenAnyRow.holds Tryd.pinned (OpenSpec.ofChange tokenAnyWrong)

/-- 'parterrelaw07.TokenSmall': WHATEVER THE INPUT: true; the input reads as it did. -/
def tokenSmallSpec : ChangeSpec := { name := "tokenSmall", fn := fun _ => fun
  | [d] => { results := [.lit (.bool true)], args := [d] }
  | _ => none }
def tokenSmallRow : OpenClaim := { program := "ytnkondmpekbblaadoor", sum := "015df631190fa3faa7afadf717954f419ad301ef75d7053b70eb0f2bc74f0308", func := "parterre/parterrelaw07.TokenSmall", spec := "tokenSmall", inPlace := ["internal/bytealg.IndexByteString"], unfollowed := true, recurses := true, named := ["parterre/token.signs"], apart := false, laid := [("parterre/token.signs", laid_parterre_token_signs)] }
def TokenSmallSaid : Prop := tokenSmallRow.holds Tryd.pinned (OpenSpec.ofChange tokenSmallSpec)

/-- ITS FALSE NEIGHBOUR: 'it returns false'. Refute it at one input. -/
def tokenSmallWrong : ChangeSpec := { name := "tokenSmall", fn := fun _ => fun
  | [d] => { results := [.lit (.bool false)], args := [d] }
  | _ => none }
def TokenSmallWrongFalsely : Prop := tokenSmallRow.holds Tryd.pinned (OpenSpec.ofChange tokenSmallWrong)

/-- 'parterrelaw07.TokenBack': WHATEVER THE INPUT: true; the input reads as it did. -/
def tokenBackSpec : ChangeSpec := { name := "tokenBack", fn := fun _ => fun
  | [d1, d2, d3] => { results := [.lit (.bool true)], args := [d1, d2, d3] }
  | _ => none }
def tokenBackRow : OpenClaim := { program := "ytnkondmpekbblaadoor", sum := "015df631190fa3faa7afadf717954f419ad301ef75d7053b70eb0f2bc74f0308", func := "parterre/parterrelaw07.TokenBack", spec := "tokenBack", inPlace := ["internal/bytealg.IndexByteString"], unfollowed := true, recurses := true, named := ["parterre/token.signs"], apart := false, laid := [("parterre/token.signs", laid_parterre_token_signs)] }
def TokenBackSaid : Prop := tokenBackRow.holds Tryd.pinned (OpenSpec.ofChange tokenBackSpec)

/-- ITS FALSE NEIGHBOUR: 'it returns false'. Refute it at one input. -/
def tokenBackWrong : ChangeSpec := { name := "tokenBack", fn := fun _ => fun
  | [d1, d2, d3] => { results := [.lit (.bool false)], args := [d1, d2, d3] }
  | _ => none }
def TokenBackWrongFalsely : Prop := tokenBackRow.holds Tryd.pinned (OpenSpec.ofChange tokenBackWrong)

/-- 'parterrelaw07.TokenParts': WHATEVER THE INPUT: true; the input reads as it did. -/
def tokenPartsSpec : ChangeSpec := { name := "tokenParts", fn := fun _ => fun
  | [d1, d2] => { results := [.lit (.bool true)], args := [d1, d2] }
  | _ => none }
def tokenPartsRow : OpenClaim := { program := "ytnkondmpekbblaadoor", sum := "015df631190fa3faa7afadf717954f419ad301ef75d7053b70eb0f2bc74f0308", func := "parterre/parterrelaw07.TokenParts", spec := "tokenParts", inPlace := ["internal/bytealg.IndexByteString"], unfollowed := true, recurses := true, named := ["parterre/token.signs"], apart := false, laid := [("parterre/token.signs", laid_parterre_token_signs)] }
def TokenPartsSaid : Prop := tokenPartsRow.holds Tryd.pinned (OpenSpec.ofChange tokenPartsSpec)

/-- ITS FALSE NEIGHBOUR: 'it returns false'. Refute it at one input. -/
def tokenPartsWrong : ChangeSpec := { name := "tokenParts", fn := fun _ => fun
  | [d1, d2] => { results := [.lit (.bool false)], args := [d1, d2] }
  | _ => none }
def TokenPartsWrongFalsely : Prop := tokenPartsRow.holds Tryd.pinned (OpenSpec.ofChange tokenPartsWrong)

/- THE SECOND FORM. 'bulk': how many values and letters a reading holds, each counted each time it is reached (what is shared counts as often as it is met; a slice's spare places count too). A statement '..UptoSaid' is the law's where the arguments, and the package variables that the reading takes, are together of bulk at most 1048576: NARROWER than '..Said'. Prove '..Said' where nothing that the law and all that it calls make is longer than what came in: it says more and counts as full. Else prove '..UptoSaid'. A law counts once. -/
mutual
def uptoBulk {H : Type} : DataW H → Nat
  | .lit (.string bytes) => bytes.length + 1
  | .lit _ => 1
  | .nil => 1
  | .ptr d => uptoBulk d + 1
  | .slice elems spare => uptoBulkAll elems + uptoBulkAll spare + 1
  | .agg parts => uptoBulkAll parts + 1
  | .iface _ d => uptoBulk d + 1
  | .map entries => uptoBulkEntries entries + 1
  | .held _ => 1
def uptoBulkAll {H : Type} : List (DataW H) → Nat
  | [] => 0
  | d :: r => uptoBulk d + uptoBulkAll r
def uptoBulkEntries {H : Type} : List (Lit × DataW H) → Nat
  | [] => 0
  | x :: r => uptoBulkEntry x + uptoBulkEntries r
def uptoBulkEntry {H : Type} : Lit × DataW H → Nat
  | (.string bytes, d) => bytes.length + uptoBulk d + 1
  | (_, d) => uptoBulk d + 1
 end
def uptoSmall : (H : Type) → List (DataW H) → Bool := fun _ ds => decide (uptoBulkAll ds ≤ 1048576)
def OpenSpec.upto (s : _root_.Go.ChangeSpec) : _root_.Go.OpenSpec := { _root_.Go.OpenSpec.ofChange s with cond := some uptoSmall }

/-- 'parterrelaw07.TokenAny', WHERE WHAT IT READS IS OF BULK AT MOST 1048576: true; the input reads as it did. -/
def tokenAnyUptoRow : OpenClaim := { program := "ytnkondmpekbblaadoor", sum := "015df631190fa3faa7afadf717954f419ad301ef75d7053b70eb0f2bc74f0308", func := "parterre/parterrelaw07.TokenAny", spec := "tokenAny", inPlace := ["internal/bytealg.IndexByteString"], unfollowed := true, recurses := true, named := ["parterre/token.signs"], apart := false, laid := [("parterre/token.signs", laid_parterre_token_signs)], narrowed := true }
def TokenAnyUptoSaid : Prop := tokenAnyUptoRow.holds Tryd.pinned (OpenSpec.upto tokenAnySpec)

/-- 'parterrelaw07.TokenSmall', WHERE WHAT IT READS IS OF BULK AT MOST 1048576: true; the input reads as it did. -/
def tokenSmallUptoRow : OpenClaim := { program := "ytnkondmpekbblaadoor", sum := "015df631190fa3faa7afadf717954f419ad301ef75d7053b70eb0f2bc74f0308", func := "parterre/parterrelaw07.TokenSmall", spec := "tokenSmall", inPlace := ["internal/bytealg.IndexByteString"], unfollowed := true, recurses := true, named := ["parterre/token.signs"], apart := false, laid := [("parterre/token.signs", laid_parterre_token_signs)], narrowed := true }
def TokenSmallUptoSaid : Prop := tokenSmallUptoRow.holds Tryd.pinned (OpenSpec.upto tokenSmallSpec)

/-- 'parterrelaw07.TokenBack', WHERE WHAT IT READS IS OF BULK AT MOST 1048576: true; the input reads as it did. -/
def tokenBackUptoRow : OpenClaim := { program := "ytnkondmpekbblaadoor", sum := "015df631190fa3faa7afadf717954f419ad301ef75d7053b70eb0f2bc74f0308", func := "parterre/parterrelaw07.TokenBack", spec := "tokenBack", inPlace := ["internal/bytealg.IndexByteString"], unfollowed := true, recurses := true, named := ["parterre/token.signs"], apart := false, laid := [("parterre/token.signs", laid_parterre_token_signs)], narrowed := true }
def TokenBackUptoSaid : Prop := tokenBackUptoRow.holds Tryd.pinned (OpenSpec.upto tokenBackSpec)

/-- 'parterrelaw07.TokenParts', WHERE WHAT IT READS IS OF BULK AT MOST 1048576: true; the input reads as it did. -/
def tokenPartsUptoRow : OpenClaim := { program := "ytnkondmpekbblaadoor", sum := "015df631190fa3faa7afadf717954f419ad301ef75d7053b70eb0f2bc74f0308", func := "parterre/parterrelaw07.TokenParts", spec := "tokenParts", inPlace := ["internal/bytealg.IndexByteString"], unfollowed := true, recurses := true, named := ["parterre/token.signs"], apart := false, laid := [("parterre/token.signs", laid_parterre_token_signs)], narrowed := true }
def TokenPartsUptoSaid : Prop := tokenPartsUptoRow.holds Tryd.pinned (OpenSpec.upto tokenPartsSpec)

end Rows
end Go.Proofs.YtnkondmpekbblaaDoor
