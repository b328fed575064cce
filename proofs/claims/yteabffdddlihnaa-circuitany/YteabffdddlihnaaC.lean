/- hash and slot: the index's search. -/
import Derived.Test.YteabffdddlihnaaB
import Derived.Test.YteabffdddlihnaaT
import Derived.ChangeKeysEq
namespace Go.Proofs.Yteabffdddlihnaa
open Go.RowKit

theorem bits_u32_range (a b : Int) : 0 ≤ bits .xor .u32 a b := by
  unfold bits
  simp only [IntKind.wrap_u32]
  omega

/-- The hash of a gate. -/
def hashF (g : Int × Int) : Nat := (bits .xor .u32 (g.1 % 4294967296 * 4096 % 4294967296) (g.2 % 4294967296) * 2654435769 % 4294967296 / 65536).toNat
theorem hashF_lt (g : Int × Int) : hashF g < 65536 := by unfold hashF; omega
theorem hashF_int (x y : Int) : (bits .xor .u32 (x % 4294967296 * 4096 % 4294967296) (y % 4294967296) * 2654435769 % 4294967296 / 65536) = (hashF (x, y) : Int) := by
  unfold hashF; simp only; omega

set_option maxHeartbeats 1000000 in
theorem hash_any (x y : Int) (w : World) :
    Calls Try.prog 90 #[.agg #[.int .i64 x, .int .i64 y]] w fun e w' => e = .returned (.int .i64 (hashF (x, y))) ∧ Below w.heap.size w w' := by
  go_enter Try.func90, Try.ntmps90
  go_wp2
  go_ret
  exact ⟨ret_int (hashF_int x y), (Below.refl _ _).alloc (Nat.le_refl _) _⟩

/-- A row of numbers in memory. -/
def Row (w : World) (sb N : Nat) (S : Nat → Nat) : Prop := ∀ i, i < N → w.cell? ⟨sb, i, none⟩ = some (.int .i64 (S i : Int))
theorem Row.below {w w' : World} {B sb N : Nat} {S : Nat → Nat} (h : Row w sb N S) (hb : Below B w w') (hs : sb < B) : Row w' sb N S :=
  fun i hi => (hb.cell (p := ⟨sb, i, none⟩) hs).trans (h i hi)

theorem and_last (h m : Nat) (hh : h < 9223372036854775808) (hm : 2 ^ m < 9223372036854775808) : bits .and .i64 (h : Int) ((2 ^ m : Nat) - 1 : Int) = ((h % 2 ^ m : Nat) : Int) := by
  have h1 : 1 ≤ 2 ^ m := Nat.one_le_two_pow
  have e : ((2 ^ m : Nat) - 1 : Int) = ((2 ^ m - 1 : Nat) : Int) := by omega
  rw [e, Gm.i64_and_nat h (2 ^ m - 1) hh (by omega), Nat.and_two_pow_sub_one_eq_mod]

theorem eq_arr2 (a b x y : Int) (w : World) : (Op.equalIn 10000 64 (.agg #[.int .i64 a, .int .i64 b]) (.agg #[.int .i64 x, .int .i64 y])).run Try.prog w = .ok (a == x && b == y) w := by
  have hi : Try.prog.info? 3 = some (Try.t3) := by kernel_rfl
  rw [show 10000 = 9999 + 1 from rfl, run_equalIn_array w 9999 _ _ Try.underlying64 hi]
  have hc : Try.prog.cellsOf 3 = 1 := by kernel_rfl
  rw [hc]
  simp [Op.eqItems, List.range, List.range.loop]
  go_simp
  by_cases h1 : a = x <;> by_cases h2 : b = y <;> simp [h1, h2]
theorem eqGuard2 : Try.prog.eqGuardType Try.prog.depth 64 = false := by kernel_rfl
theorem neq_arr2 (a b x y : Int) (w : World) : (binOp .neq 64 (.agg #[.int .i64 a, .int .i64 b]) (.agg #[.int .i64 x, .int .i64 y])).run Try.prog w = .ok (.bool (!(a == x && b == y))) w := by
  rw [run_neq_struct, eq_arr2]
  rfl
theorem eql_arr2 (a b x y : Int) (w : World) : (binOp .eql 64 (.agg #[.int .i64 a, .int .i64 b]) (.agg #[.int .i64 x, .int .i64 y])).run Try.prog w = .ok (.bool (a == x && b == y)) w := by
  rw [run_eql_struct, eq_arr2]
  rfl
theorem ix1 (sb N r : Nat) (hm : N ≤ 1000000) (hr : r < N) (w : World) : (Instr.indexAt 24 (.slice (some ⟨sb, 0, none⟩) N N) (.int .i64 (r : Int))).run Try.prog w = .ok (.pointer (some ⟨sb, r, none⟩)) w := by go_simp
theorem ix2 (sb off N c r : Nat) (hm : N ≤ 1000000) (hr : r < N) (w : World) : (Instr.indexAt 23 (.slice (some ⟨sb, off, none⟩) N c) (.int .i64 (r : Int))).run Try.prog w = .ok (.pointer (some ⟨sb, off + r * 2, none⟩)) w := by go_simp

set_option maxHeartbeats 2000000 in
theorem slot_any (ib sb m : Nat) (A : Option Addr) (c : Nat) (gs : List (Int × Int)) (S : Nat → Nat) (x y : Int) (w : World)
    (hib : ib < w.heap.size) (hsb : sb < w.heap.size) (hm : 2 ^ m ≤ 1000000) (hl : gs.length ≤ 1000000)
    (hi0 : w.cell? ⟨ib, 0, none⟩ = some (.slice A gs.length c)) (hi4 : w.cell? ⟨ib, 4, none⟩ = some (.slice (some ⟨sb, 0, none⟩) (2 ^ m) (2 ^ m)))
    (B : Nat) (hg : Gr w B A gs) (hB : B ≤ w.heap.size) (hS : Row w sb (2 ^ m) S) (hle : ∀ i, i < 2 ^ m → S i ≤ gs.length) (hc : Gm.cnt S (2 ^ m) < 2 ^ m) :
    Calls Try.prog 83 #[.pointer (some ⟨ib, 0, none⟩), .agg #[.int .i64 x, .int .i64 y]] w
      fun e w' => ∃ r : Nat, e = .returned (.int .i64 r) ∧ r < 2 ^ m ∧ Gm.Stops gs (2 ^ m) S (x, y) (hashF (x, y)) r ∧ Below w.heap.size w w' := by
  obtain ⟨j0, hj0, hz0, hbef⟩ := Gm.first_free S (2 ^ m) (hashF (x, y)) hc
  have hh := hashF_lt (x, y)
  have HH := Lib.hid (hash_any x y)
  generalize hashF (x, y) = h at *
  have hand := and_last h m (by omega) (by omega)
  generalize hN : 2 ^ m = N at *
  have HN := Lib.hid hN
  have Hand := Lib.hid hand
  have HZ := Lib.hid hz0
  have HB := Lib.hid hbef
  have HLE := Lib.hid hle
  clear hN hand hz0 hbef hle
  go_enter Try.func83, Try.ntmps83
  go_wp2_with (go_at_call 90; refine (HH.out _).mono ?_; rintro e w' ⟨rfl, hb⟩)
  obtain ⟨hcb, _⟩ := bcell hb
  have hbw : Below w.heap.size w w' := ((Below.refl _ _).alloc (Nat.le_refl _) _).trans (hb.mono (by simp))
  have hsz : w.heap.size < w'.heap.size := by have := hb.size; simp at this; omega
  have k0 : w'.cell? ⟨w.heap.size, 0, none⟩ = some (.int .i64 x) := by rw [hcb _ _ (by simp)]; simp
  have k1 : w'.cell? ⟨w.heap.size, 1, none⟩ = some (.int .i64 y) := by rw [hcb _ _ (by simp)]; simp
  have e0 : w'.cell? ⟨ib, 0, none⟩ = some (.slice A gs.length c) := (hbw.cell (p := ⟨ib, 0, none⟩) hib).trans hi0
  have e4 : w'.cell? ⟨ib, 4, none⟩ = some (.slice (some ⟨sb, 0, none⟩) N N) := (hbw.cell (p := ⟨ib, 4, none⟩) hib).trans hi4
  have hg' := hg.below hbw hB
  have hS' := hS.below hbw hsb
  clear hcb hb hi0 hi4 hg hS hc
  go_loopg [6] j0 (fun gk p wr => ∃ j : Nat, p = .int .i64 ((h + j) % N : Nat) ∧ j + gk = j0 ∧ Gm.Path gs N S (x, y) (h) j ∧ Below w'.heap.size w' wr)
  case atStart => exact ⟨0, by rw [Hand.out, Nat.add_zero], by omega, fun i hi => by omega, Below.refl _ _⟩
  case round =>
    obtain ⟨j, rfl, hj, hp, hbr⟩ := hrel
    have hS2 := hS'.below hbr (Nat.lt_of_lt_of_le hsb hbw.size)
    have hg2 := hg'.below hbr (Nat.le_trans hB hbw.size)
    have k0' := (hbr.cell (p := ⟨w.heap.size, 0, none⟩) hsz).trans k0
    have k1' := (hbr.cell (p := ⟨w.heap.size, 1, none⟩) hsz).trans k1
    have e0' := (hbr.cell (p := ⟨ib, 0, none⟩) (Nat.lt_of_lt_of_le hib hbw.size)).trans e0
    have e4' := (hbr.cell (p := ⟨ib, 4, none⟩) (Nat.lt_of_lt_of_le hib hbw.size)).trans e4
    clear k0 k1 e0 e4
    have hr : (h + j) % N < N := Nat.mod_lt _ (by omega)
    have hent := hS2 _ hr
    have hle := HLE.out _ hr
    have HP := Lib.hid hp
    have hnext : bits .and .i64 (((h + j) % N : Nat) + 1 : Int) ((N : Int) - 1) = ((h + (j + 1)) % N : Nat) := by
      have := and_last ((h + j) % N + 1) m (by omega) (by have := HN.out; omega)
      rw [HN.out] at this
      rw [show ((((h + j) % N : Nat) : Int) + 1) = (((h + j) % N + 1 : Nat) : Int) by omega, this, Nat.mod_add_mod, Nat.add_assoc]
    have HX := Lib.hid hnext
    clear hp hnext
    by_cases hz : S ((h + j) % N) = 0
    · have hst := Lib.hid (show Gm.Stops gs N S (x, y) (h) ((h + j) % N) from ⟨j, by omega, rfl, HP.out, Or.inl hz⟩)
      rw [hz] at hent
      generalize (h + j) % N = r at *
      have hix := ix1 sb N r hm hr
      have HR := Lib.hid hr
      clear hz hle hr hm
      have hd : ((0 : Int) != 0) = false := by simp
      go_wp2
      go_quiet (fail)
      go_wp2
      go_ret
      exact ⟨r, rfl, HR.out, hst.out, by exact below_drewN (hbw.trans (hbr.mono hbw.size)) _⟩
    · obtain ⟨e, he⟩ : ∃ e, S ((h + j) % N) = e + 1 := ⟨S ((h + j) % N) - 1, by omega⟩
      rw [he] at hent hle
      have hent2 : wr.cell? ⟨sb, (h + j) % N, none⟩ = some (.int .i64 ((e : Int) + 1)) := by rw [hent]; simp
      clear hent
      obtain ⟨b, off, hA, hbw2, g1, g2⟩ := hg2 e (by omega)
      subst hA
      have hga : Gm.gAt gs (S ((h + j) % N)) = gs[e] := by rw [he]; simp [Gm.gAt, List.getElem?_eq_getElem (show e < gs.length by omega)]
      have HGA := Lib.hid hga
      clear hga
      generalize gs[e] = g at *
      obtain ⟨a, b'⟩ := g
      simp only at g1 g2
      have hne := neq_arr2 a b' x y
      have hgu := eqGuard2
      have hix2 := ix2 b off gs.length c e hl (by omega)
      have hd : ((e : Int) + 1 != 0) = true := by simp; omega
      by_cases hgg : (a, b') = (x, y)
      · have hst := Lib.hid (show Gm.Stops gs N S (x, y) h ((h + j) % N) from ⟨j, by omega, rfl, HP.out, Or.inr (HGA.out.trans hgg)⟩)
        clear HGA
        generalize (h + j) % N = r at *
        have hix := ix1 sb N r hm hr
        have HR := Lib.hid hr
        clear hz he hr hm
        have hb : (a == x && b' == y) = true := by simp only [Prod.mk.injEq] at hgg; simp [hgg.1, hgg.2]
        rw [hb] at hne
        clear hb hgg
        go_wp2
        go_quiet (fail)
        go_wp2
        go_ret
        exact ⟨r, rfl, HR.out, hst.out, by exact below_drewN (hbw.trans (hbr.mono hbw.size)) _⟩
      · have hst := Lib.hid (show Gm.Path gs N S (x, y) h (j + 1) from fun i hi => by
          by_cases e' : i < j
          · exact HP.out i e'
          · have : i = j := by omega
            subst this
            exact ⟨hz, by rw [HGA.out]; exact hgg⟩)
        have hjj := Lib.hid (show j + 1 ≤ j0 from Nat.lt_of_le_of_ne (by omega) (fun e' => hz (by rw [e']; exact HZ.out)))
        clear HGA
        generalize (h + j) % N = r at *
        have hix := ix1 sb N r hm hr
        have HR := Lib.hid hr
        have HJ := Lib.hid hj
        have hbe : (a == x && b' == y) = false := by
          simp only [Prod.mk.injEq] at hgg
          by_cases ha : a = x
          · have : ¬ b' = y := fun hb => hgg ⟨ha, hb⟩
            simp [this]
          · simp [ha]
        rw [hbe] at hne
        clear hbe hgg hz he hr hj
        have hr : r < N := HR.out
        go_wp2
        clear hr
        go_quiet (fail)
        have hr : r < N := HR.out
        go_wp2
        go_roundg (gk - 1)
        case measure => have := hjj.out; have := HJ.out; omega
        case rel => exact ⟨j + 1, by rw [HX.out], by have := hjj.out; have := HJ.out; omega, hst.out, below_drewN hbr _⟩
end Go.Proofs.Yteabffdddlihnaa
