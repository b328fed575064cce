/- Tokens: rows of tokens in memory; two lists are the same. -/
import Derived.Test.YtnkondmpekbblaaDoorT7
namespace Go.Proofs.YtnkondmpekbblaaDoor
open Go.RowKit

/-- A slice's tokens in memory. -/
def Tr (W : World) (A : Option Addr) (ts : List Tk.Tok) : Prop := ∀ k (h : k < ts.length), ∃ b off, A = some ⟨b, off, none⟩ ∧ b < W.heap.size ∧ W.cell? ⟨b, off + k * 3, none⟩ = some (.int .i64 ((ts[k]).k : Int)) ∧ W.cell? ⟨b, off + k * 3 + 1, none⟩ = some (.string (bsv (ts[k]).t)) ∧ W.cell? ⟨b, off + k * 3 + 2, none⟩ = some (.int .i64 ((ts[k]).a : Int))
theorem row_tr {W : World} {base : Nat} {v : Value} {ts : List Tk.Tok} (h : W.ownsRow base 32 3 v ts.length (flatT ts)) : ∃ A c, v = .slice A ts.length c ∧ Tr W A ts := by
  obtain ⟨_, h2⟩ := h
  rcases h2 with ⟨rfl, h0⟩ | ⟨g, cap, cur, rfl, _, hh, hn, _, hs, ht⟩
  · exact ⟨none, 0, by rw [h0], fun k hk => by omega⟩
  · refine ⟨_, cap, rfl, fun k hk => ⟨g, 0, rfl, Blk.lt (t := 32) hh, ?_⟩⟩
    obtain ⟨f0, f1, f2⟩ := flatT_get ts k hk
    rw [← ht, List.getElem?_take_of_lt (by omega)] at f0 f1 f2
    rw [Nat.zero_add, Blk.cell (t := 32) hh, Blk.cell (t := 32) hh, Blk.cell (t := 32) hh, ← Array.getElem?_toList, ← Array.getElem?_toList, ← Array.getElem?_toList]
    exact ⟨f0, f1, f2⟩
theorem Tr.below {W W' : World} {A : Option Addr} {ts : List Tk.Tok} (h : Tr W A ts) (hb : Below W.heap.size W W') : Tr W' A ts := fun k hk => by
  obtain ⟨b, off, e, hl, h0, h1, h2⟩ := h k hk
  exact ⟨b, off, e, Nat.lt_of_lt_of_le hl hb.size, (hb.cell (p := ⟨b, _, none⟩) hl).trans h0, (hb.cell (p := ⟨b, _, none⟩) hl).trans h1, (hb.cell (p := ⟨b, _, none⟩) hl).trans h2⟩
theorem ixT (b off n c r : Nat) (hn : n ≤ 1000000) (hr : r < n) (w : World) : (Instr.indexAt 27 (.slice (some ⟨b, off, none⟩) n c) (.int .i64 (r : Int))).run Tryd.prog w = .ok (.pointer (some ⟨b, off + r * 3, none⟩)) w := by go_simp
theorem neq_tok (k a : Int) (s : ByteArray) (w : World) : (binOp .neq 32 (.agg #[.int .i64 k, .string s, .int .i64 a]) (.agg #[.int .i64 k, .string s, .int .i64 a])).run Tryd.prog w = .ok (.bool false) w := by
  have u3 := Tryd.underlying3
  have a3 := Tryd.isAgg3
  have z3 := Tryd.sizeOf3
  have u4 := Tryd.underlying9
  have a4 := Tryd.isAgg9
  have z4 := Tryd.sizeOf9
  have hS : Tryd.prog.underlying 32 = some (.struct (Tryd.prog.fieldsOf 32)) := by kernel_rfl
  have hp : Tryd.prog.stoodInHeld 32 = false := by kernel_rfl
  rw [run_neq_struct, show (10000 : Nat) = 9999 + 1 from rfl, run_equalIn_agg w 9999 32 _ _ hS hp]
  simp only [Program.fieldsOf, Tryd.underlying32]
  go_simp
theorem tokGuard : Tryd.prog.eqGuardType Tryd.prog.depth 32 = false := by kernel_rfl
set_option maxRecDepth 100000 in
set_option maxHeartbeats 4000000 in
theorem sametok_true (A A2 : Option Addr) (c c2 : Nat) (ts : List Tk.Tok) (w : World) (hl : ts.length ≤ 1000000) (hg : Tr w A ts) (hg2 : Tr w A2 ts) :
    Calls Tryd.prog 12 #[.slice A ts.length c, .slice A2 ts.length c2] w fun e w' => e = .returned (.bool true) ∧ Below w.heap.size w w' := by
  have b2 : ((ts.length : Int) != (ts.length : Int)) = false := by simp
  go_enter Tryd.func12, Tryd.ntmps12
  go_wp2_with fail
  clear b2
  go_loopw [5] (fun j wr => ∃ k : Nat, k ≤ ts.length ∧ j = .int .i64 (k : Int) ∧ ∃ q, wr = w.drewN q) (fun j _ => ts.length - (intOf j).toNat)
  case atStart => exact ⟨0, Nat.zero_le _, rfl, 0, rfl⟩
  case round =>
    obtain ⟨k, hk, rfl, q, rfl⟩ := hrel
    by_cases hlt : k < ts.length
    · obtain ⟨b, off, hA, _, g0, g1, g2⟩ := hg k hlt
      obtain ⟨b2, off2, hA2, _, g3, g4, g5⟩ := hg2 k hlt
      subst hA hA2
      have hix := ixT b off ts.length c k hl hlt
      have hix2 := ixT b2 off2 ts.length c2 k hl hlt
      have hgu := tokGuard
      generalize ts[k] = x at *
      obtain ⟨xk, xt, xa⟩ := x
      simp only at g0 g1 g2 g3 g4 g5
      have hel := neq_tok xk xa (bsv xt)
      go_wp2
      go_quiet (fail)
      go_wp2
      go_roundw
      case rel => exact ⟨k + 1, by omega, by go_num, q + nq, rfl⟩
      case measure => simp [intOf]; omega
    · go_wp2
      go_ret
      exact ⟨rfl, below_drewN (Below.refl _ _) _⟩
end Go.Proofs.YtnkondmpekbblaaDoor
