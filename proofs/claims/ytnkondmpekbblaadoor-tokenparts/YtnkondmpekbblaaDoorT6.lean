/- The document's tokens: which sign stands ahead. -/
import Derived.Test.YtnkondmpekbblaaDoorT5
namespace Go.Proofs.YtnkondmpekbblaaDoor
open Go.RowKit
attribute [local go_sem] bsv_size

theorem slto_bsv (s : Tk.Bs) (n : Nat) (h : n ≤ s.length) (w : World) : (Instr.slice 9 (.string (bsv s)) none (some (.int .i64 (n : Int))) none).run Tryd.prog w = .ok (.string (bsv (s.take n))) w := by
  have e := bsv_extract s 0 n
  rw [List.drop_zero, Nat.sub_zero] at e
  rw [← e]
  have : (n : Int) ≤ ((bsv s).size : Int) := by rw [bsv_size]; omega
  go_simp
theorem Blk.drew {w : World} {g : Nat} {t : TypeId} {cs : Array Value} (h : Blk w g t cs) (n : Nat) : Blk (w.drewN n) g t cs := h
set_option maxRecDepth 10000 in
set_option maxHeartbeats 4000000 in
theorem refsign_any (s : Tk.Bs) (w : World) (hs : s.length ≤ 100000) : Calls Tryd.prog 15 #[.string (bsv s)] w fun e w' => e = .returned (.int .i64 (Tk.signS s : Nat)) ∧ Below w.heap.size w w' := by
  go_enter Tryd.func15, Tryd.ntmps15
  go_wp2_with fail
  refine (refsigns_any w).mono ?_
  rintro e w1 ⟨rfl, rfl⟩
  go_wp2
  have L0 : Below w.heap.size w (w.alloc (.cells signCells 9)) := lowAlloc w _
  have B0 := Blk.new w 9 signCells
  generalize w.alloc (.cells signCells 9) = V at *
  go_loopw [4] (fun i wr => ∃ k : Nat, k ≤ 9 ∧ i = .int .i64 (k : Int) ∧ Tk.signS s = Tk.signIn (Tk.signsL.drop k) s ∧ Below w.heap.size w wr ∧ Blk wr w.heap.size 9 signCells) (fun i _ => 9 - (intOf i).toNat)
  case atStart => exact ⟨0, Nat.zero_le _, rfl, rfl, L0, B0⟩
  case round =>
    obtain ⟨k, hk, rfl, hj, hlo, hbk⟩ := hrel
    have HJ := Lib.hid hj
    clear hj L0 B0
    by_cases hlt : k < 9
    · have ck := (hbk.cell k).trans (signCells_get k hlt)
      have hix := ixS9 w.heap.size k hlt
      have HS := Lib.hid (signs_drop k hlt)
      have hsh := signs_short k
      generalize Tk.signsL.getD k [] = x at *
      by_cases hle : x.length ≤ s.length
      · have dle : decide ((x.length : Int) ≤ (s.length : Int)) = true := decide_eq_true (by omega)
        have hsl := slto_bsv s x.length hle
        have heq := eq_bsv (s.take x.length) x
        have HP := Lib.hid (prefix_take x s hle)
        generalize s.take x.length = y at *
        cases hp : x.isPrefixOf s with
        | false =>
          have HN := Lib.hid (signIn_no (r := Tk.signsL.drop (k + 1)) hp)
          rw [hp] at HP
          rw [HP.out] at heq
          clear hp HP
          go_wp2
          go_quiet (fail)
          go_wp2
          go_roundw
          case rel => exact ⟨k + 1, by omega, by go_num, by rw [HJ.out, HS.out, HN.out], below_drewN hlo _, hbk.drew _⟩
          case measure => simp [intOf]; omega
        | true =>
          have HN := Lib.hid (signIn_yes (r := Tk.signsL.drop (k + 1)) hp)
          rw [hp] at HP
          rw [HP.out] at heq
          clear hp HP
          go_wp2
          go_quiet (fail)
          go_wp2
          go_ret
          exact ⟨by rw [HJ.out, HS.out, HN.out]; rfl, below_drewN hlo _⟩
      · have dle : decide ((x.length : Int) ≤ (s.length : Int)) = false := decide_eq_false (by omega)
        have HN := Lib.hid (signIn_no (r := Tk.signsL.drop (k + 1)) (prefix_long x s hle))
        go_wp2
        go_quiet (fail)
        go_wp2
        go_roundw
        case rel => exact ⟨k + 1, by omega, by go_num, by rw [HJ.out, HS.out, HN.out], below_drewN hlo _, hbk.drew _⟩
        case measure => simp [intOf]; omega
    · obtain rfl : k = 9 := by omega
      go_wp2
      go_ret
      exact ⟨by rw [HJ.out]; rfl, hlo⟩
end Go.Proofs.YtnkondmpekbblaaDoor
