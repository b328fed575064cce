/-
  NARROWER THAN 'FOR EVERY INPUT', by the rows' own cells (each row's printed sentence says how): EvalAny: laid · EvalMade: laid · EvalThree: laid · EvalGates: laid · EvalAll: laid · EvalLess: laid.
  DERIVED. THE GIVEN ROWS OF THIS SEAT. 6 by the template 'for every input the law returns true; each argument reads behind the call as it read before'; 0 by the template 'total and deterministic' (their statements: YtpbbjklacgkcgaaDoorTotals.lean).
  GIVEN WITH THE SEED: the statements are not yours to turn. If you find one false, say at which input.
  Laid BY PROGRAM, IN A SANDBOX (cutbox-rows.mjs): the forced cells as the released guide's own fill.sh prints them over the translation 5cc5de718bda6846… (all of the seat's roots in one cut). By AI agents, Wed Nov 11 2026. No macro, syntax, notation, axiom, sorry.
-/
import Derived.Test.YtpbbjklacgkcgaaDoorChecked
import GoSem.Claim
import GoSem.ClaimJoined
import GoSem.ClaimMapViews
import Derived.JoinedTies
import Derived.KernelRfl
namespace Go.Proofs.YtpbbjklacgkcgaaDoor
/- THE CELL 'sum', in the pinned program and in every row, IS THE sha256 OF THE DUMP (.gsa) THAT YtpbbjklacgkcgaaDoorProg.lean LOADS. Nothing in Lean hashes anything: it is a label: what it is worth is what the hold of that sum in a sandbox is worth. -/
noncomputable def Tryd.pinned : Pinned := { name := "ytpbbjklacgkcgaadoor", sum := "5cc5de718bda6846122234d0465659a1ef5959cf59634d724f8a0516c3633528", checked := Tryd.checked }
namespace Rows
def none {H : Type} : Left H := { results := [], args := [] }

/- WHAT THE LISTED PACKAGE-LEVEL VARIABLES READ AS WHEN THE CALL BEGINS. Each datum BY PROGRAM (the guide's laid-datum.mjs) off the statement by which the dump's own 'gosem.cut.vars' lays the variable. In a bare row this is a premise. The card (YtpbbjklacgkcgaaDoorCards.lean) ties it to the program's text. -/
def laid_parterre_eval_gates {H : Type} : DataW H := .agg [.agg [.lit (.int .i64 0), .lit (.int .i64 0), .lit (.int .i64 0)], .agg [.lit (.int .i64 0), .lit (.int .i64 1), .lit (.int .i64 2)], .agg [.lit (.int .i64 0), .lit (.int .i64 2), .lit (.int .i64 2)]]
def laid_parterre_eval_negations {H : Type} : DataW H := .agg [.lit (.int .i64 1), .lit (.int .i64 0), .lit (.int .i64 2)]

/-- 'parterrelaw02.EvalAny': WHATEVER THE INPUT: true; the input reads as it did. -/
def evalAnySpec : ChangeSpec := { name := "evalAny", fn := fun _ => fun
  | [d1, d2, d3, d4] => { results := [.lit (.bool true)], args := [d1, d2, d3, d4] }
  | _ => none }
def evalAnyRow : OpenClaim := { program := "ytpbbjklacgkcgaadoor", sum := "5cc5de718bda6846122234d0465659a1ef5959cf59634d724f8a0516c3633528", func := "parterre/parterrelaw02.EvalAny", spec := "evalAny", inPlace := ["sync/atomic.LoadUint32", "(*internal/sync.Mutex).Lock", "internal/race.Disable", "sync/atomic.CompareAndSwapInt32", "internal/race.Enable", "internal/race.Acquire", "(*internal/sync.Mutex).lockSlow", "internal/sync.runtime_canSpin", "internal/sync.runtime_doSpin", "internal/sync.throw", "internal/sync.runtime_nanotime", "internal/sync.runtime_SemacquireMutex", "sync/atomic.AddInt32", "(*internal/sync.Mutex).Unlock", "internal/race.ReleaseMerge", "(*internal/sync.Mutex).unlockSlow", "internal/sync.fatal", "internal/sync.runtime_Semrelease", "sync/atomic.StoreUint32"], unfollowed := true, recurses := true, named := ["parterre/eval.gates", "parterre/eval.negations"], apart := false, laid := [("parterre/eval.gates", laid_parterre_eval_gates), ("parterre/eval.negations", laid_parterre_eval_negations)] }
def EvalAnySaid : Prop := evalAnyRow.holds Tryd.pinned (OpenSpec.ofChange evalAnySpec)

/-- ITS FALSE NEIGHBOUR: 'it returns false'. Refute it at one input. -/
def evalAnyWrong : ChangeSpec := { name := "evalAny", fn := fun _ => fun
  | [d1, d2, d3, d4] => { results := [.lit (.bool false)], args := [d1, d2, d3, d4] }
  | _ => none }
def EvalAnyWrongFalsely : Prop := evalAnyRow.holds Tryd.pinned (OpenSpec.ofChange evalAnyWrong)

/-- 'parterrelaw02.EvalMade': WHATEVER THE INPUT: true; the input reads as it did. -/
def evalMadeSpec : ChangeSpec := { name := "evalMade", fn := fun _ => fun
  | [d1, d2, d3, d4] => { results := [.lit (.bool true)], args := [d1, d2, d3, d4] }
  | _ => none }
def evalMadeRow : OpenClaim := { program := "ytpbbjklacgkcgaadoor", sum := "5cc5de718bda6846122234d0465659a1ef5959cf59634d724f8a0516c3633528", func := "parterre/parterrelaw02.EvalMade", spec := "evalMade", inPlace := ["sync/atomic.LoadUint32", "(*internal/sync.Mutex).Lock", "internal/race.Disable", "sync/atomic.CompareAndSwapInt32", "internal/race.Enable", "internal/race.Acquire", "(*internal/sync.Mutex).lockSlow", "internal/sync.runtime_canSpin", "internal/sync.runtime_doSpin", "internal/sync.throw", "internal/sync.runtime_nanotime", "internal/sync.runtime_SemacquireMutex", "sync/atomic.AddInt32", "(*internal/sync.Mutex).Unlock", "internal/race.ReleaseMerge", "(*internal/sync.Mutex).unlockSlow", "internal/sync.fatal", "internal/sync.runtime_Semrelease", "sync/atomic.StoreUint32"], unfollowed := true, recurses := true, named := ["parterre/eval.gates", "parterre/eval.negations"], apart := false, laid := [("parterre/eval.gates", laid_parterre_eval_gates), ("parterre/eval.negations", laid_parterre_eval_negations)] }
def EvalMadeSaid : Prop := evalMadeRow.holds Tryd.pinned (OpenSpec.ofChange evalMadeSpec)

/-- ITS FALSE NEIGHBOUR: 'it returns false'. Refute it at one input. -/
def evalMadeWrong : ChangeSpec := { name := "evalMade", fn := fun _ => fun
  | [d1, d2, d3, d4] => { results := [.lit (.bool false)], args := [d1, d2, d3, d4] }
  | _ => none }
def EvalMadeWrongFalsely : Prop := evalMadeRow.holds Tryd.pinned (OpenSpec.ofChange evalMadeWrong)

/-- 'parterrelaw02.EvalThree': WHATEVER THE INPUT: true; the input reads as it did. -/
def evalThreeSpec : ChangeSpec := { name := "evalThree", fn := fun _ => fun
  | [d1, d2, d3, d4] => { results := [.lit (.bool true)], args := [d1, d2, d3, d4] }
  | _ => none }
def evalThreeRow : OpenClaim := { program := "ytpbbjklacgkcgaadoor", sum := "5cc5de718bda6846122234d0465659a1ef5959cf59634d724f8a0516c3633528", func := "parterre/parterrelaw02.EvalThree", spec := "evalThree", inPlace := ["sync/atomic.LoadUint32", "(*internal/sync.Mutex).Lock", "internal/race.Disable", "sync/atomic.CompareAndSwapInt32", "internal/race.Enable", "internal/race.Acquire", "(*internal/sync.Mutex).lockSlow", "internal/sync.runtime_canSpin", "internal/sync.runtime_doSpin", "internal/sync.throw", "internal/sync.runtime_nanotime", "internal/sync.runtime_SemacquireMutex", "sync/atomic.AddInt32", "(*internal/sync.Mutex).Unlock", "internal/race.ReleaseMerge", "(*internal/sync.Mutex).unlockSlow", "internal/sync.fatal", "internal/sync.runtime_Semrelease", "sync/atomic.StoreUint32"], unfollowed := true, recurses := true, named := ["parterre/eval.gates", "parterre/eval.negations"], apart := false, laid := [("parterre/eval.gates", laid_parterre_eval_gates), ("parterre/eval.negations", laid_parterre_eval_negations)] }
def EvalThreeSaid : Prop := evalThreeRow.holds Tryd.pinned (OpenSpec.ofChange evalThreeSpec)

/-- ITS FALSE NEIGHBOUR: 'it returns false'. Refute it at one input. -/
def evalThreeWrong : ChangeSpec := { name := "evalThree", fn := fun _ => fun
  | [d1, d2, d3, d4] => { results := [.lit (.bool false)], args := [d1, d2, d3, d4] }
  | _ => none }
def EvalThreeWrongFalsely : Prop := evalThreeRow.holds Tryd.pinned (OpenSpec.ofChange evalThreeWrong)

/-- 'parterrelaw02.EvalGates': WHATEVER THE INPUT: true; the input reads as it did. -/
def evalGatesSpec : ChangeSpec := { name := "evalGates", fn := fun _ => fun
  | [d1, d2, d3, d4, d5, d6] => { results := [.lit (.bool true)], args := [d1, d2, d3, d4, d5, d6] }
  | _ => none }
def evalGatesRow : OpenClaim := { program := "ytpbbjklacgkcgaadoor", sum := "5cc5de718bda6846122234d0465659a1ef5959cf59634d724f8a0516c3633528", func := "parterre/parterrelaw02.EvalGates", spec := "evalGates", inPlace := ["sync/atomic.LoadUint32", "(*internal/sync.Mutex).Lock", "internal/race.Disable", "sync/atomic.CompareAndSwapInt32", "internal/race.Enable", "internal/race.Acquire", "(*internal/sync.Mutex).lockSlow", "internal/sync.runtime_canSpin", "internal/sync.runtime_doSpin", "internal/sync.throw", "internal/sync.runtime_nanotime", "internal/sync.runtime_SemacquireMutex", "sync/atomic.AddInt32", "(*internal/sync.Mutex).Unlock", "internal/race.ReleaseMerge", "(*internal/sync.Mutex).unlockSlow", "internal/sync.fatal", "internal/sync.runtime_Semrelease", "sync/atomic.StoreUint32"], unfollowed := true, recurses := true, named := ["parterre/eval.gates", "parterre/eval.negations"], apart := false, laid := [("parterre/eval.gates", laid_parterre_eval_gates), ("parterre/eval.negations", laid_parterre_eval_negations)] }
def EvalGatesSaid : Prop := evalGatesRow.holds Tryd.pinned (OpenSpec.ofChange evalGatesSpec)

/-- ITS FALSE NEIGHBOUR: 'it returns false'. Refute it at one input. -/
def evalGatesWrong : ChangeSpec := { name := "evalGates", fn := fun _ => fun
  | [d1, d2, d3, d4, d5, d6] => { results := [.lit (.bool false)], args := [d1, d2, d3, d4, d5, d6] }
  | _ => none }
def EvalGatesWrongFalsely : Prop := evalGatesRow.holds Tryd.pinned (OpenSpec.ofChange evalGatesWrong)

/-- 'parterrelaw02.EvalAll': WHATEVER THE INPUT: true; the input reads as it did. -/
def evalAllSpec : ChangeSpec := { name := "evalAll", fn := fun _ => fun
  | [d1, d2, d3] => { results := [.lit (.bool true)], args := [d1, d2, d3] }
  | _ => none }
def evalAllRow : OpenClaim := { program := "ytpbbjklacgkcgaadoor", sum := "5cc5de718bda6846122234d0465659a1ef5959cf59634d724f8a0516c3633528", func := "parterre/parterrelaw02.EvalAll", spec := "evalAll", inPlace := ["sync/atomic.LoadUint32", "(*internal/sync.Mutex).Lock", "internal/race.Disable", "sync/atomic.CompareAndSwapInt32", "internal/race.Enable", "internal/race.Acquire", "(*internal/sync.Mutex).lockSlow", "internal/sync.runtime_canSpin", "internal/sync.runtime_doSpin", "internal/sync.throw", "internal/sync.runtime_nanotime", "internal/sync.runtime_SemacquireMutex", "sync/atomic.AddInt32", "(*internal/sync.Mutex).Unlock", "internal/race.ReleaseMerge", "(*internal/sync.Mutex).unlockSlow", "internal/sync.fatal", "internal/sync.runtime_Semrelease", "sync/atomic.StoreUint32"], unfollowed := true, recurses := true, named := ["parterre/eval.gates", "parterre/eval.negations"], apart := false, laid := [("parterre/eval.gates", laid_parterre_eval_gates), ("parterre/eval.negations", laid_parterre_eval_negations)] }
def EvalAllSaid : Prop := evalAllRow.holds Tryd.pinned (OpenSpec.ofChange evalAllSpec)

/-- ITS FALSE NEIGHBOUR: 'it returns false'. Refute it at one input. -/
def evalAllWrong : ChangeSpec := { name := "evalAll", fn := fun _ => fun
  | [d1, d2, d3] => { results := [.lit (.bool false)], args := [d1, d2, d3] }
  | _ => none }
def EvalAllWrongFalsely : Prop := evalAllRow.holds Tryd.pinned (OpenSpec.ofChange evalAllWrong)

/-- 'parterrelaw02.EvalLess': WHATEVER THE INPUT: true; the input reads as it did. -/
def evalLessSpec : ChangeSpec := { name := "evalLess", fn := fun _ => fun
  | [d1, d2, d3, d4] => { results := [.lit (.bool true)], args := [d1, d2, d3, d4] }
  | _ => none }
def evalLessRow : OpenClaim := { program := "ytpbbjklacgkcgaadoor", sum := "5cc5de718bda6846122234d0465659a1ef5959cf59634d724f8a0516c3633528", func := "parterre/parterrelaw02.EvalLess", spec := "evalLess", inPlace := ["sync/atomic.LoadUint32", "(*internal/sync.Mutex).Lock", "internal/race.Disable", "sync/atomic.CompareAndSwapInt32", "internal/race.Enable", "internal/race.Acquire", "(*internal/sync.Mutex).lockSlow", "internal/sync.runtime_canSpin", "internal/sync.runtime_doSpin", "internal/sync.throw", "internal/sync.runtime_nanotime", "internal/sync.runtime_SemacquireMutex", "sync/atomic.AddInt32", "(*internal/sync.Mutex).Unlock", "internal/race.ReleaseMerge", "(*internal/sync.Mutex).unlockSlow", "internal/sync.fatal", "internal/sync.runtime_Semrelease", "sync/atomic.StoreUint32"], unfollowed := true, recurses := true, named := ["parterre/eval.gates", "parterre/eval.negations"], apart := false, laid := [("parterre/eval.gates", laid_parterre_eval_gates), ("parterre/eval.negations", laid_parterre_eval_negations)] }
def EvalLessSaid : Prop := evalLessRow.holds Tryd.pinned (OpenSpec.ofChange evalLessSpec)

/-- ITS FALSE NEIGHBOUR: 'it returns false'. Refute it at one input. -/
def evalLessWrong : ChangeSpec := { name := "evalLess", fn := fun _ => fun
  | [d1, d2, d3, d4] => { results := [.lit (.bool false)], args := [d1, d2, d3, d4] }
  | _ => none }
def EvalLessWrongFalsely : Prop := evalLessRow.holds Tryd.pinned (OpenSpec.ofChange evalLessWrong)

/- THE SECOND FORM. 'bulk': how many values and letters a reading holds, each counted each time it is reached (what is shared counts as often as it is met; a slice's spare places count too). A statement '..UptoSaid' is the law's where the arguments, and the package variables that the reading takes, are together of bulk at most 1048576: NARROWER than '..Said'. Prove '..Said' where nothing that the law and all that it calls make is longer than what came in: it says more and counts as full. Else prove '..UptoSaid'. A law counts once. -/
mutual
def uptoBulk {H : Type} : DataW H → Nat
  | .lit (.string bytes) => bytes.length + 1
  | .lit _ => 1
  | .nil => 1
  | .ptr d => uptoBulk d + 1
  | .slice elems spare => uptoBulkAll elems + uptoBulkAll spare + 1
  | .agg parts => uptoBulkAll parts + 1
  | .iface _ d => uptoBulk d + 1
  | .map entries => uptoBulkEntries entries + 1
  | .held _ => 1
def uptoBulkAll {H : Type} : List (DataW H) → Nat
  | [] => 0
  | d :: r => uptoBulk d + uptoBulkAll r
def uptoBulkEntries {H : Type} : List (Lit × DataW H) → Nat
  | [] => 0
  | x :: r => uptoBulkEntry x + uptoBulkEntries r
def uptoBulkEntry {H : Type} : Lit × DataW H → Nat
  | (.string bytes, d) => bytes.length + uptoBulk d + 1
  | (_, d) => uptoBulk d + 1
 end
def uptoSmall : (H : Type) → List (DataW H) → Bool := fun _ ds => decide (uptoBulkAll ds ≤ 1048576)
def OpenSpec.upto (s : _root_.Go.ChangeSpec) : _root_.Go.OpenSpec := { _root_.Go.OpenSpec.ofChange s with cond := some uptoSmall }

/-- 'parterrelaw02.EvalAny', WHERE WHAT IT READS IS OF BULK AT MOST 1048576: true; the input reads as it did. -/
def evalAnyUptoRow : OpenClaim := { program := "ytpbbjklacgkcgaadoor", sum := "5cc5de718bda6846122234d0465659a1ef5959cf59634d724f8a0516c3633528", func := "parterre/parterrelaw02.EvalAny", spec := "evalAny", inPlace := ["sync/atomic.LoadUint32", "(*internal/sync.Mutex).Lock", "internal/race.Disable", "sync/atomic.CompareAndSwapInt32", "internal/race.Enable", "internal/race.Acquire", "(*internal/sync.Mutex).lockSlow", "internal/sync.runtime_canSpin", "internal/sync.runtime_doSpin", "internal/sync.throw", "internal/sync.runtime_nanotime", "internal/sync.runtime_SemacquireMutex", "sync/atomic.AddInt32", "(*internal/sync.Mutex).Unlock", "internal/race.ReleaseMerge", "(*internal/sync.Mutex).unlockSlow", "internal/sync.fatal", "internal/sync.runtime_Semrelease", "sync/atomic.StoreUint32"], unfollowed := true, recurses := true, named := ["parterre/eval.gates", "parterre/eval.negations"], apart := false, laid := [("parterre/eval.gates", laid_parterre_eval_gates), ("parterre/eval.negations", laid_parterre_eval_negations)], narrowed := true }
def EvalAnyUptoSaid : Prop := evalAnyUptoRow.holds Tryd.pinned (OpenSpec.upto evalAnySpec)

/-- 'parterrelaw02.EvalMade', WHERE WHAT IT READS IS OF BULK AT MOST 1048576: true; the input reads as it did. -/
def evalMadeUptoRow : OpenClaim := { program := "ytpbbjklacgkcgaadoor", sum := "5cc5de718bda6846122234d0465659a1ef5959cf59634d724f8a0516c3633528", func := "parterre/parterrelaw02.EvalMade", spec := "evalMade", inPlace := ["sync/atomic.LoadUint32", "(*internal/sync.Mutex).Lock", "internal/race.Disable", "sync/atomic.CompareAndSwapInt32", "internal/race.Enable", "internal/race.Acquire", "(*internal/sync.Mutex).lockSlow", "internal/sync.runtime_canSpin", "internal/sync.runtime_doSpin", "internal/sync.throw", "internal/sync.runtime_nanotime", "internal/sync.runtime_SemacquireMutex", "sync/atomic.AddInt32", "(*internal/sync.Mutex).Unlock", "internal/race.ReleaseMerge", "(*internal/sync.Mutex).unlockSlow", "internal/sync.fatal", "internal/sync.runtime_Semrelease", "sync/atomic.StoreUint32"], unfollowed := true, recurses := true, named := ["parterre/eval.gates", "parterre/eval.negations"], apart := false, laid := [("parterre/eval.gates", laid_parterre_eval_gates), ("parterre/eval.negations", laid_parterre_eval_negations)], narrowed := true }
def EvalMadeUptoSaid : Prop := evalMadeUptoRow.holds Tryd.pinned (OpenSpec.upto evalMadeSpec)

/-- 'parterrelaw02.EvalThree', WHERE WHAT IT READS IS OF BULK AT MOST 1048576: true; the input reads as it did. -/
def evalThreeUptoRow : OpenClaim := { program := "ytpbbjklacgkcgaadoor", sum := "5cc5de718bda6846122234d0465659a1ef5959cf59634d724f8a0516c3633528", func := "parterre/parterrelaw02.EvalThree", spec := "evalThree", inPlace := ["sync/atomic.LoadUint32", "(*internal/sync.Mutex).Lock", "internal/race.Disable", "sync/atomic.CompareAndSwapInt32", "internal/race.Enable", "internal/race.Acquire", "(*internal/sync.Mutex).lockSlow", "internal/sync.runtime_canSpin", "internal/sync.runtime_doSpin", "internal/sync.throw", "internal/sync.runtime_nanotime", "internal/sync.runtime_SemacquireMutex", "sync/atomic.AddInt32", "(*internal/sync.Mutex).Unlock", "internal/race.ReleaseMerge", "(*internal/sync.Mutex).unlockSlow", "internal/sync.fatal", "internal/sync.runtime_Semrelease", "sync/atomic.StoreUint32"], unfollowed := true, recurses := true, named := ["parterre/eval.gates", "parterre/eval.negations"], apart := false, laid := [("parterre/eval.gates", laid_parterre_eval_gates), ("parterre/eval.negations", laid_parterre_eval_negations)], narrowed := true }
def EvalThreeUptoSaid : Prop := evalThreeUptoRow.holds Tryd.pinned (OpenSpec.upto evalThreeSpec)

/-- 'parterrelaw02.EvalGates', WHERE WHAT IT READS IS OF BULK AT MOST 1048576: true; the input reads as it did. -/
def evalGatesUptoRow : OpenClaim := { program := "ytpbbjklacgkcgaadoor", sum := "5cc5de718bda6846122234d0465659a1ef5959cf59634d724f8a0516c3633528", func := "parterre/parterrelaw02.EvalGates", spec := "evalGates", inPlace := ["sync/atomic.LoadUint32", "(*internal/sync.Mutex).Lock", "internal/race.Disable", "sync/atomic.CompareAndSwapInt32", "internal/race.Enable", "internal/race.Acquire", "(*internal/sync.Mutex).lockSlow", "internal/sync.runtime_canSpin", "internal/sync.runtime_doSpin", "internal/sync.throw", "internal/sync.runtime_nanotime", "internal/sync.runtime_SemacquireMutex", "sync/atomic.AddInt32", "(*internal/sync.Mutex).Unlock", "internal/race.ReleaseMerge", "(*internal/sync.Mutex).unlockSlow", "internal/sync.fatal", "internal/sync.runtime_Semrelease", "sync/atomic.StoreUint32"], unfollowed := true, recurses := true, named := ["parterre/eval.gates", "parterre/eval.negations"], apart := false, laid := [("parterre/eval.gates", laid_parterre_eval_gates), ("parterre/eval.negations", laid_parterre_eval_negations)], narrowed := true }
def EvalGatesUptoSaid : Prop := evalGatesUptoRow.holds Tryd.pinned (OpenSpec.upto evalGatesSpec)

/-- 'parterrelaw02.EvalAll', WHERE WHAT IT READS IS OF BULK AT MOST 1048576: true; the input reads as it did. -/
def evalAllUptoRow : OpenClaim := { program := "ytpbbjklacgkcgaadoor", sum := "5cc5de718bda6846122234d0465659a1ef5959cf59634d724f8a0516c3633528", func := "parterre/parterrelaw02.EvalAll", spec := "evalAll", inPlace := ["sync/atomic.LoadUint32", "(*internal/sync.Mutex).Lock", "internal/race.Disable", "sync/atomic.CompareAndSwapInt32", "internal/race.Enable", "internal/race.Acquire", "(*internal/sync.Mutex).lockSlow", "internal/sync.runtime_canSpin", "internal/sync.runtime_doSpin", "internal/sync.throw", "internal/sync.runtime_nanotime", "internal/sync.runtime_SemacquireMutex", "sync/atomic.AddInt32", "(*internal/sync.Mutex).Unlock", "internal/race.ReleaseMerge", "(*internal/sync.Mutex).unlockSlow", "internal/sync.fatal", "internal/sync.runtime_Semrelease", "sync/atomic.StoreUint32"], unfollowed := true, recurses := true, named := ["parterre/eval.gates", "parterre/eval.negations"], apart := false, laid := [("parterre/eval.gates", laid_parterre_eval_gates), ("parterre/eval.negations", laid_parterre_eval_negations)], narrowed := true }
def EvalAllUptoSaid : Prop := evalAllUptoRow.holds Tryd.pinned (OpenSpec.upto evalAllSpec)

/-- 'parterrelaw02.EvalLess', WHERE WHAT IT READS IS OF BULK AT MOST 1048576: true; the input reads as it did. -/
def evalLessUptoRow : OpenClaim := { program := "ytpbbjklacgkcgaadoor", sum := "5cc5de718bda6846122234d0465659a1ef5959cf59634d724f8a0516c3633528", func := "parterre/parterrelaw02.EvalLess", spec := "evalLess", inPlace := ["sync/atomic.LoadUint32", "(*internal/sync.Mutex).Lock", "internal/race.Disable", "sync/atomic.CompareAndSwapInt32", "internal/race.Enable", "internal/race.Acquire", "(*internal/sync.Mutex).lockSlow", "internal/sync.runtime_canSpin", "internal/sync.runtime_doSpin", "internal/sync.throw", "internal/sync.runtime_nanotime", "internal/sync.runtime_SemacquireMutex", "sync/atomic.AddInt32", "(*internal/sync.Mutex).Unlock", "internal/race.ReleaseMerge", "(*internal/sync.Mutex).unlockSlow", "internal/sync.fatal", "internal/sync.runtime_Semrelease", "sync/atomic.StoreUint32"], unfollowed := true, recurses := true, named := ["parterre/eval.gates", "parterre/eval.negations"], apart := false, laid := [("parterre/eval.gates", laid_parterre_eval_gates), ("parterre/eval.negations", laid_parterre_eval_negations)], narrowed := true }
def EvalLessUptoSaid : Prop := evalLessUptoRow.holds Tryd.pinned (OpenSpec.upto evalLessSpec)

end Rows
end Go.Proofs.YtpbbjklacgkcgaaDoor
