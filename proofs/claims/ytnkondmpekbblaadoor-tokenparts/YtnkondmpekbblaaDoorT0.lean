/- Tokens: the small functions of package token. -/
import Derived.Test.YtnkondmpekbblaaDoorTB
import Derived.Test.YtnkondmpekbblaaDoorTM
import Derived.Lib.Bytealg
namespace Go.Proofs.YtnkondmpekbblaaDoor
open Go.RowKit

/-- A text as the program's string. -/
def bsv (s : Tk.Bs) : ByteArray := ⟨s.toArray⟩
theorem bsv_size (s : Tk.Bs) : (bsv s).size = s.length := by simp [bsv, ByteArray.size]
theorem bsv_get (s : Tk.Bs) (i : Nat) (h : i < s.length) : (bsv s)[i]'(by rw [bsv_size]; exact h) = s[i] := rfl
theorem ix_bsv (s : Tk.Bs) (i : Nat) (h : i < s.length) (w : World) : (Instr.index 9 (.string (bsv s)) (.int .i64 (i : Int))).run Tryd.prog w = .ok (.int .u8 ((s[i]).toNat : Int)) w := by
  rw [index_str (bsv s) i (by rw [bsv_size]; exact h) w, bsv_get s i h]
theorem bsv_extract (s : Tk.Bs) (a b : Nat) : (bsv s).extract a b = bsv ((s.drop a).take (b - a)) := by
  unfold bsv
  apply ByteArray.ext
  simp [ByteArray.data_extract, List.extract_eq_take_drop]
theorem sl_bsv (s : Tk.Bs) (a : Nat) (h : a ≤ s.length) (w : World) : (Instr.slice 9 (.string (bsv s)) (some (.int .i64 (a : Int))) none none).run Tryd.prog w = .ok (.string (bsv (s.drop a))) w := by
  rw [run_slice_string_from_if w _ _ _ _ Tryd.underlying9, if_pos (by rw [bsv_size]; omega), Int.toNat_natCast, bsv_size, bsv_extract, List.take_of_length_le (by rw [List.length_drop]; omega)]
theorem eq_bsv (x y : Tk.Bs) : ((bsv x).toList == (bsv y).toList) = (x == y) := by
  rw [Lib.toList_data, Lib.toList_data]
  rfl

set_option maxHeartbeats 1000000 in
theorem idx30 (s : ByteArray) (c : Int) (w : World) : Calls Tryd.prog 30 #[.string s, .int .u8 c] w fun e w' => e = .returned (.int .i64 (Lib.indexByte s.data.toList c.toNat.toUInt8)) ∧ w = w' := by
  have hc : ∀ w, (callFunc 33 #[.string s, .int .u8 c]).run Tryd.prog w = .ok (.value (.int .i64 (Lib.indexByte s.data.toList c.toNat.toUInt8))) w := fun w => by
    rw [run_callFunc_extern Tryd.func33 (by kernel_rfl) (by kernel_rfl) (by kernel_rfl) (e := Extern.BytealgIndexByte.indexByte) (by kernel_rfl), Lib.run_indexByteString]
    rfl
  go_enter Tryd.func30, Tryd.ntmps30
  go_wp2
  go_ret
  exact ⟨rfl, rfl⟩
set_option maxHeartbeats 1000000 in
theorem idx26 (s : ByteArray) (c : Int) (w : World) : Calls Tryd.prog 26 #[.string s, .int .u8 c] w fun e w' => e = .returned (.int .i64 (Lib.indexByte s.data.toList c.toNat.toUInt8)) ∧ w = w' := by
  go_enter Tryd.func26, Tryd.ntmps26
  go_wp2_with fail
  refine (idx30 s c w).mono ?_
  rintro e w1 ⟨rfl, rfl⟩
  go_wp2
  go_ret
  exact ⟨rfl, rfl⟩
theorem blank_idx (b : UInt8) : decide (0 ≤ Lib.indexByte (⟨#[32, 9, 10]⟩ : ByteArray).data.toList ((b.toNat : Int)).toNat.toUInt8) = Tk.blankB b := by
  rw [Int.toNat_natCast, show b.toNat.toUInt8 = b by simp]
  show decide (0 ≤ Lib.indexByte [32, 9, 10] b) = _
  have e1 : ∀ c : UInt8, (c == b) = decide (b = c) := fun c => by
    rw [Bool.eq_iff_iff]
    simp
    exact eq_comm
  simp only [Lib.indexByte, e1, Tk.blankB]
  by_cases h1 : b = 32
  · subst h1
    decide
  · by_cases h2 : b = 9
    · subst h2
      decide
    · by_cases h3 : b = 10
      · subst h3
        decide
      · have k1 : b.toNat ≠ 32 := fun h => h1 (UInt8.toNat_inj.1 h)
        have k2 : b.toNat ≠ 9 := fun h => h2 (UInt8.toNat_inj.1 h)
        have k3 : b.toNat ≠ 10 := fun h => h3 (UInt8.toNat_inj.1 h)
        simp [h1, h2, h3, k1, k2, k3]
set_option maxHeartbeats 1000000 in
theorem blank_any (b : UInt8) (w : World) : Calls Tryd.prog 22 #[.int .u8 (b.toNat : Int)] w fun e w' => e = .returned (.bool (Tk.blankB b)) ∧ w = w' := by
  have HB := Lib.hid (blank_idx b)
  go_enter Tryd.func22, Tryd.ntmps22
  go_wp2_with fail
  refine (idx26 _ _ w).mono ?_
  rintro e w1 ⟨rfl, rfl⟩
  generalize Lib.indexByte (⟨#[32, 9, 10]⟩ : ByteArray).data.toList ((b.toNat : Int)).toNat.toUInt8 = x at *
  go_wp2
  go_ret
  exact ⟨by rw [← HB.out]; rfl, rfl⟩

set_option maxHeartbeats 2000000 in
theorem plain_any (b : UInt8) (w : World) : Calls Tryd.prog 23 #[.int .u8 (b.toNat : Int)] w fun e w' => e = .returned (.bool (Tk.plainB b)) ∧ w = w' := by
  have HP : Hid (Tk.plainB b = decide (97 ≤ b.toNat ∧ b.toNat ≤ 122 ∨ 65 ≤ b.toNat ∧ b.toNat ≤ 90 ∨ 48 ≤ b.toNat ∧ b.toNat ≤ 57 ∨ b.toNat = 95)) := rfl
  generalize b.toNat = n at *
  go_enter Tryd.func23, Tryd.ntmps23
  go_wp2
  all_goals (go_ret; refine ⟨?_, rfl⟩; rw [HP.out]; refine congrArg (fun b => Ending.returned (Value.bool b)) ?_; rw [Bool.eq_iff_iff]; simp; try omega)

set_option maxHeartbeats 2000000 in
theorem letter_any (b : UInt8) (w : World) : Calls Tryd.prog 14 #[.int .u8 (b.toNat : Int)] w fun e w' => e = .returned (.bool (Tk.plainB b)) ∧ w = w' := by
  have HP : Hid (Tk.plainB b = decide (97 ≤ b.toNat ∧ b.toNat ≤ 122 ∨ 65 ≤ b.toNat ∧ b.toNat ≤ 90 ∨ 48 ≤ b.toNat ∧ b.toNat ≤ 57 ∨ b.toNat = 95)) := rfl
  generalize b.toNat = n at *
  go_enter Tryd.func14, Tryd.ntmps14
  go_wp2
  all_goals (go_ret; refine ⟨?_, rfl⟩; rw [HP.out]; refine congrArg (fun b => Ending.returned (Value.bool b)) ?_; rw [Bool.eq_iff_iff]; simp; try omega)

set_option maxHeartbeats 2000000 in
theorem quotable_any (b : UInt8) (w : World) : Calls Tryd.prog 28 #[.int .u8 (b.toNat : Int)] w fun e w' => e = .returned (.bool (Tk.quotB b)) ∧ w = w' := by
  have HP : Hid (Tk.quotB b = decide (33 ≤ b.toNat ∧ b.toNat ≤ 126 ∧ b.toNat ≠ 34)) := rfl
  generalize b.toNat = n at *
  go_enter Tryd.func28, Tryd.ntmps28
  go_wp2
  all_goals (go_ret; refine ⟨?_, rfl⟩; rw [HP.out]; refine congrArg (fun b => Ending.returned (Value.bool b)) ?_; rw [Bool.eq_iff_iff]; simp; try omega)

end Go.Proofs.YtnkondmpekbblaaDoor
