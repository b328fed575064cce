/- The document's tokens: quoted names, signs. -/
import Derived.Test.YtlddnejjpekgeaaDoorQad
set_option linter.unusedSimpArgs false
set_option linter.unusedVariables false
namespace Go.Proofs.YtlddnejjpekgeaaDoor
open Go.RowKit
attribute [local go_sem] bsv_size

/-- The length of a quoted name, whatever stands ahead of it. -/
def rqS (u : Tk.Bs) : Nat := if Tk.runS Tk.quotB u ≠ 0 ∧ u[Tk.runS Tk.quotB u]? = some 34 then Tk.runS Tk.quotB u + 2 else 0
theorem rq_quoted {b : UInt8} {u : Tk.Bs} (h : b.toNat = 34) : Tk.quotedS (b :: u) = rqS u := by
  have : b = 34 := UInt8.toNat_inj.1 h
  subst this
  unfold Tk.quotedS rqS
  simp
theorem no_quoted {b : UInt8} {u : Tk.Bs} (h : b.toNat ≠ 34) : Tk.quotedS (b :: u) = 0 := by
  unfold Tk.quotedS
  rw [if_neg]
  intro hc
  apply h
  have := hc.1
  simp at this
  rw [this]
  rfl
set_option maxRecDepth 10000 in
set_option maxHeartbeats 2000000 in
theorem refquoted_any (b0 : UInt8) (u : Tk.Bs) (w : World) (hs : u.length ≤ 100000) : Calls Tryd.prog 69 #[.string (bsv (b0 :: u))] w fun e w' => e = .returned (.int .i64 (rqS u : Nat)) ∧ w = w' := by
  have HQ : Hid (rqS u = if Tk.runS Tk.quotB u ≠ 0 ∧ u[Tk.runS Tk.quotB u]? = some 34 then Tk.runS Tk.quotB u + 2 else 0) := rfl
  generalize rqS u = q at *
  have hlen : (((b0 :: u).length : Nat) : Int) = (u.length : Int) + 1 := by simp
  have HIX : Hid (∀ k (h : k < u.length) w, (Instr.index 9 (.string (bsv (b0 :: u))) (.int .i64 ((k : Int) + 1))).run Tryd.prog w = .ok (.int .u8 ((u[k]).toNat : Int)) w) := fun k h w => by
    have := ix_bsv (b0 :: u) (k + 1) (by simp; omega) w
    rwa [show ((k + 1 : Nat) : Int) = (k : Int) + 1 by omega] at this
  generalize b0 :: u = s at *
  go_enter Tryd.func69, Tryd.ntmps69
  go_wp2
  go_loopw [3] (fun i wr => ∃ k : Nat, k ≤ u.length ∧ i = .int .i64 ((k : Int) + 1) ∧ (∀ j (hj : j < u.length), j < k → Tk.quotB (u[j]) = true) ∧ w = wr) (fun i _ => u.length + 1 - (intOf i).toNat)
  case atStart => exact ⟨0, Nat.zero_le _, rfl, fun _ _ h => absurd h (Nat.not_lt_zero _), rfl⟩
  case round =>
    obtain ⟨k, hk, rfl, hj, rfl⟩ := hrel
    have HJ := Lib.hid hj
    clear hj
    by_cases hlt : k < u.length
    · have hix := HIX.out k hlt
      have HP : Hid (Tk.quotB (u[k]) = decide (33 ≤ (u[k]).toNat ∧ (u[k]).toNat ≤ 126 ∧ (u[k]).toNat ≠ 34)) := rfl
      have HN : Hid (Tk.quotB (u[k]) = false → q = if k ≠ 0 ∧ (u[k]).toNat = 34 then k + 2 else 0) := fun h => by
        have hr := Tk.run_of hk HJ.out (fun _ => h)
        rw [HQ.out, hr, List.getElem?_eq_getElem hlt]
        have e34 : (some (u[k]) = some 34) ↔ ((u[k]).toNat = 34) := ⟨fun h => by injection h with h; rw [h]; rfl, fun h => congrArg some (UInt8.toNat_inj.1 (show (u[k]).toNat = (34 : UInt8).toNat from h))⟩
        simp only [e34]
      have HJ2 : Hid (Tk.quotB (u[k]) = true → ∀ j (hj : j < u.length), j < k + 1 → Tk.quotB (u[j]) = true) := fun h j hj hjk => by
        by_cases hjk : j = k
        · subst hjk
          exact h
        · exact HJ.out j hj (by omega)
      generalize (u[k]).toNat = b at *
      generalize Tk.quotB (u[k]) = p at *
      by_cases h34 : b = 34
      · subst h34
        have HN2 := Lib.hid (HN.out (by rw [HP.out]; rfl))
        by_cases hk0 : k = 0
        · subst hk0
          have hix1 : ∀ w, (Instr.index 9 (.string (bsv s)) (.int .i64 1)).run Tryd.prog w = .ok (.int .u8 34) w := hix
          clear hix HN HJ2
          have hQ0 : Hid (q = 0) := by unfold Hid; rw [HN2.out]; simp
          clear HN2
          go_wp2
          go_ret
          exact ⟨by rw [hQ0.out]; rfl, rfl⟩
        · go_wp2
          go_ret
          refine ⟨?_, rfl⟩
          rw [HN2.out, if_pos ⟨hk0, trivial⟩]
          have : ((k : Int) + 1 + 1) = ((k + 2 : Nat) : Int) := by omega
          rw [← this]
          rfl
      · have d34 : ((b : Int) == 34) = false := by rw [beq_eq_false_iff_ne]; omega
        by_cases hin : 33 ≤ b ∧ b ≤ 126
        · obtain ⟨hi1, hi2⟩ := hin
          have HPT : Hid (p = true) := by
            unfold Hid
            rw [HP.out, decide_eq_true ⟨hi1, hi2, h34⟩]
          go_wp2
          go_roundw
          case rel => exact ⟨k + 1, by omega, by go_num, HJ2.out HPT.out, trivial⟩
          case measure => simp [intOf]; omega
        · have HN2 := Lib.hid (HN.out (by rw [HP.out]; exact decide_eq_false (fun h => hin ⟨h.1, h.2.1⟩)))
          by_cases h33 : b < 33
          · have d33 : (b : Int) < 33 := by omega
            go_wp2
            go_ret
            exact ⟨by rw [HN2.out, if_neg (fun h => h34 h.2)]; rfl, rfl⟩
          · have d126 : (126 : Int) < b := by omega
            go_wp2
            go_ret
            exact ⟨by rw [HN2.out, if_neg (fun h => h34 h.2)]; rfl, rfl⟩
    · obtain rfl : k = u.length := by omega
      have HN : Hid (q = 0) := by
        have hr := Tk.run_of (Nat.le_refl _) HJ.out (fun h => absurd h (Nat.lt_irrefl _))
        unfold Hid
        rw [HQ.out, hr, List.getElem?_eq_none (Nat.le_refl _)]
        simp
      go_wp2
      go_ret
      exact ⟨by rw [HN.out]; rfl, rfl⟩
/-- The signs as the document's program lays them out. -/
def signCells : Array Value := (Tk.signsL.map (fun x => Value.string (bsv x))).toArray
set_option maxHeartbeats 2000000 in
theorem refsigns_any (w : World) : Calls Tryd.prog 81 #[] w fun e w' => e = .returned (.slice (some ⟨w.heap.size, 0, none⟩) 9 9) ∧ w' = w.alloc (.cells signCells 9) := by
  go_enter Tryd.func81, Tryd.ntmps81
  go_wp2
  go_ret
  exact ⟨rfl, rfl⟩
theorem signCells_get (i : Nat) (h : i < 9) : signCells[i]? = some (.string (bsv (Tk.signsL.getD i []))) := by
  have : i = 0 ∨ i = 1 ∨ i = 2 ∨ i = 3 ∨ i = 4 ∨ i = 5 ∨ i = 6 ∨ i = 7 ∨ i = 8 := by omega
  rcases this with rfl | rfl | rfl | rfl | rfl | rfl | rfl | rfl | rfl <;> rfl
theorem ixS9 (sb r : Nat) (hr : r < 9) (w : World) : (Instr.indexAt 48 (.slice (some ⟨sb, 0, none⟩) 9 9) (.int .i64 (r : Int))).run Tryd.prog w = .ok (.pointer (some ⟨sb, r, none⟩)) w := by
  have h1 : (r : Int) < 9 := by omega
  go_simp
end Go.Proofs.YtlddnejjpekgeaaDoor
/- The document's tokens: which sign stands ahead. -/
namespace Go.Proofs.YtlddnejjpekgeaaDoor
open Go.RowKit
attribute [local go_sem] bsv_size

theorem slto_bsv (s : Tk.Bs) (n : Nat) (h : n ≤ s.length) (w : World) : (Instr.slice 9 (.string (bsv s)) none (some (.int .i64 (n : Int))) none).run Tryd.prog w = .ok (.string (bsv (s.take n))) w := by
  have e := bsv_extract s 0 n
  rw [List.drop_zero, Nat.sub_zero] at e
  rw [← e]
  have : (n : Int) ≤ ((bsv s).size : Int) := by rw [bsv_size]; omega
  go_simp
theorem Blk.drew {w : World} {g : Nat} {t : TypeId} {cs : Array Value} (h : Blk w g t cs) (n : Nat) : Blk (w.drewN n) g t cs := h
set_option maxRecDepth 10000 in
set_option maxHeartbeats 4000000 in
theorem refsign_any (s : Tk.Bs) (w : World) (hs : s.length ≤ 100000) : Calls Tryd.prog 68 #[.string (bsv s)] w fun e w' => e = .returned (.int .i64 (Tk.signS s : Nat)) ∧ Below w.heap.size w w' := by
  go_enter Tryd.func68, Tryd.ntmps68
  go_wp2_with fail
  refine (refsigns_any w).mono ?_
  rintro e w1 ⟨rfl, rfl⟩
  go_wp2
  have L0 : Below w.heap.size w (w.alloc (.cells signCells 9)) := lowAlloc w _
  have B0 := Blk.new w 9 signCells
  generalize w.alloc (.cells signCells 9) = V at *
  go_loopw [4] (fun i wr => ∃ k : Nat, k ≤ 9 ∧ i = .int .i64 (k : Int) ∧ Tk.signS s = Tk.signIn (Tk.signsL.drop k) s ∧ Below w.heap.size w wr ∧ Blk wr w.heap.size 9 signCells) (fun i _ => 9 - (intOf i).toNat)
  case atStart => exact ⟨0, Nat.zero_le _, rfl, rfl, L0, B0⟩
  case round =>
    obtain ⟨k, hk, rfl, hj, hlo, hbk⟩ := hrel
    have HJ := Lib.hid hj
    clear hj L0 B0
    by_cases hlt : k < 9
    · have ck := (hbk.cell k).trans (signCells_get k hlt)
      have hix := ixS9 w.heap.size k hlt
      have HS := Lib.hid (signs_drop k hlt)
      have hsh := signs_short k
      generalize Tk.signsL.getD k [] = x at *
      by_cases hle : x.length ≤ s.length
      · have dle : decide ((x.length : Int) ≤ (s.length : Int)) = true := decide_eq_true (by omega)
        have hsl := slto_bsv s x.length hle
        have heq := eq_bsv (s.take x.length) x
        have HP := Lib.hid (prefix_take x s hle)
        generalize s.take x.length = y at *
        cases hp : x.isPrefixOf s with
        | false =>
          have HN := Lib.hid (signIn_no (r := Tk.signsL.drop (k + 1)) hp)
          rw [hp] at HP
          rw [HP.out] at heq
          clear hp HP
          go_wp2
          go_quiet (fail)
          go_wp2
          go_roundw
          case rel => exact ⟨k + 1, by omega, by go_num, by rw [HJ.out, HS.out, HN.out], below_drewN hlo _, hbk.drew _⟩
          case measure => simp [intOf]; omega
        | true =>
          have HN := Lib.hid (signIn_yes (r := Tk.signsL.drop (k + 1)) hp)
          rw [hp] at HP
          rw [HP.out] at heq
          clear hp HP
          go_wp2
          go_quiet (fail)
          go_wp2
          go_ret
          exact ⟨by rw [HJ.out, HS.out, HN.out]; rfl, below_drewN hlo _⟩
      · have dle : decide ((x.length : Int) ≤ (s.length : Int)) = false := decide_eq_false (by omega)
        have HN := Lib.hid (signIn_no (r := Tk.signsL.drop (k + 1)) (prefix_long x s hle))
        go_wp2
        go_quiet (fail)
        go_wp2
        go_roundw
        case rel => exact ⟨k + 1, by omega, by go_num, by rw [HJ.out, HS.out, HN.out], below_drewN hlo _, hbk.drew _⟩
        case measure => simp [intOf]; omega
    · obtain rfl : k = 9 := by omega
      go_wp2
      go_ret
      exact ⟨by rw [HJ.out]; rfl, hlo⟩
end Go.Proofs.YtlddnejjpekgeaaDoor
