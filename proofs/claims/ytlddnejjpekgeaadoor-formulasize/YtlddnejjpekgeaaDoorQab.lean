/- Tokens: the small functions of package token. -/
import Derived.Test.YtlddnejjpekgeaaDoorQaa
import Derived.Lib.Bytealg
set_option linter.unusedSimpArgs false
set_option linter.unusedVariables false
namespace Go.Proofs.YtlddnejjpekgeaaDoor
open Go.RowKit

/-- A text as the program's string. -/
def bsv (s : Tk.Bs) : ByteArray := ⟨s.toArray⟩
theorem bsv_size (s : Tk.Bs) : (bsv s).size = s.length := by simp [bsv, ByteArray.size]
theorem bsv_get (s : Tk.Bs) (i : Nat) (h : i < s.length) : (bsv s)[i]'(by rw [bsv_size]; exact h) = s[i] := rfl
theorem ix_bsv (s : Tk.Bs) (i : Nat) (h : i < s.length) (w : World) : (Instr.index 9 (.string (bsv s)) (.int .i64 (i : Int))).run Tryd.prog w = .ok (.int .u8 ((s[i]).toNat : Int)) w := by
  rw [index_str (bsv s) i (by rw [bsv_size]; exact h) w, bsv_get s i h]
theorem bsv_extract (s : Tk.Bs) (a b : Nat) : (bsv s).extract a b = bsv ((s.drop a).take (b - a)) := by
  unfold bsv
  apply ByteArray.ext
  simp [ByteArray.data_extract, List.extract_eq_take_drop]
theorem sl_bsv (s : Tk.Bs) (a : Nat) (h : a ≤ s.length) (w : World) : (Instr.slice 9 (.string (bsv s)) (some (.int .i64 (a : Int))) none none).run Tryd.prog w = .ok (.string (bsv (s.drop a))) w := by
  rw [run_slice_string_from_if w _ _ _ _ Tryd.underlying9, if_pos (by rw [bsv_size]; omega), Int.toNat_natCast, bsv_size, bsv_extract, List.take_of_length_le (by rw [List.length_drop]; omega)]
theorem eq_bsv (x y : Tk.Bs) : ((bsv x).toList == (bsv y).toList) = (x == y) := by
  rw [Lib.toList_data, Lib.toList_data]
  rfl

set_option maxHeartbeats 1000000 in
theorem idx30 (s : ByteArray) (c : Int) (w : World) : Calls Tryd.prog 85 #[.string s, .int .u8 c] w fun e w' => e = .returned (.int .i64 (Lib.indexByte s.data.toList c.toNat.toUInt8)) ∧ w = w' := by
  have hc : ∀ w, (callFunc 92 #[.string s, .int .u8 c]).run Tryd.prog w = .ok (.value (.int .i64 (Lib.indexByte s.data.toList c.toNat.toUInt8))) w := fun w => by
    rw [run_callFunc_extern Tryd.func92 (by kernel_rfl) (by kernel_rfl) (by kernel_rfl) (e := Extern.BytealgIndexByte.indexByte) (by kernel_rfl), Lib.run_indexByteString]
    rfl
  go_enter Tryd.func85, Tryd.ntmps85
  go_wp2
  go_ret
  exact ⟨rfl, rfl⟩
set_option maxHeartbeats 1000000 in
theorem idx26 (s : ByteArray) (c : Int) (w : World) : Calls Tryd.prog 77 #[.string s, .int .u8 c] w fun e w' => e = .returned (.int .i64 (Lib.indexByte s.data.toList c.toNat.toUInt8)) ∧ w = w' := by
  go_enter Tryd.func77, Tryd.ntmps77
  go_wp2_with fail
  refine (idx30 s c w).mono ?_
  rintro e w1 ⟨rfl, rfl⟩
  go_wp2
  go_ret
  exact ⟨rfl, rfl⟩
theorem blank_idx (b : UInt8) : decide (0 ≤ Lib.indexByte (⟨#[32, 9, 10]⟩ : ByteArray).data.toList ((b.toNat : Int)).toNat.toUInt8) = Tk.blankB b := by
  rw [Int.toNat_natCast, show b.toNat.toUInt8 = b by simp]
  show decide (0 ≤ Lib.indexByte [32, 9, 10] b) = _
  have e1 : ∀ c : UInt8, (c == b) = decide (b = c) := fun c => by
    rw [Bool.eq_iff_iff]
    simp
    exact eq_comm
  simp only [Lib.indexByte, e1, Tk.blankB]
  by_cases h1 : b = 32
  · subst h1
    decide
  · by_cases h2 : b = 9
    · subst h2
      decide
    · by_cases h3 : b = 10
      · subst h3
        decide
      · have k1 : b.toNat ≠ 32 := fun h => h1 (UInt8.toNat_inj.1 h)
        have k2 : b.toNat ≠ 9 := fun h => h2 (UInt8.toNat_inj.1 h)
        have k3 : b.toNat ≠ 10 := fun h => h3 (UInt8.toNat_inj.1 h)
        simp [h1, h2, h3, k1, k2, k3]
set_option maxHeartbeats 1000000 in
theorem blank_any (b : UInt8) (w : World) : Calls Tryd.prog 62 #[.int .u8 (b.toNat : Int)] w fun e w' => e = .returned (.bool (Tk.blankB b)) ∧ w = w' := by
  have HB := Lib.hid (blank_idx b)
  go_enter Tryd.func62, Tryd.ntmps62
  go_wp2_with fail
  refine (idx26 _ _ w).mono ?_
  rintro e w1 ⟨rfl, rfl⟩
  generalize Lib.indexByte (⟨#[32, 9, 10]⟩ : ByteArray).data.toList ((b.toNat : Int)).toNat.toUInt8 = x at *
  go_wp2
  go_ret
  exact ⟨by rw [← HB.out]; rfl, rfl⟩

set_option maxHeartbeats 2000000 in
theorem plain_any (b : UInt8) (w : World) : Calls Tryd.prog 63 #[.int .u8 (b.toNat : Int)] w fun e w' => e = .returned (.bool (Tk.plainB b)) ∧ w = w' := by
  have HP : Hid (Tk.plainB b = decide (97 ≤ b.toNat ∧ b.toNat ≤ 122 ∨ 65 ≤ b.toNat ∧ b.toNat ≤ 90 ∨ 48 ≤ b.toNat ∧ b.toNat ≤ 57 ∨ b.toNat = 95)) := rfl
  generalize b.toNat = n at *
  go_enter Tryd.func63, Tryd.ntmps63
  go_wp2
  all_goals (go_ret; refine ⟨?_, rfl⟩; rw [HP.out]; refine congrArg (fun b => Ending.returned (Value.bool b)) ?_; rw [Bool.eq_iff_iff]; simp; try omega)

set_option maxHeartbeats 2000000 in
theorem letter_any (b : UInt8) (w : World) : Calls Tryd.prog 67 #[.int .u8 (b.toNat : Int)] w fun e w' => e = .returned (.bool (Tk.plainB b)) ∧ w = w' := by
  have HP : Hid (Tk.plainB b = decide (97 ≤ b.toNat ∧ b.toNat ≤ 122 ∨ 65 ≤ b.toNat ∧ b.toNat ≤ 90 ∨ 48 ≤ b.toNat ∧ b.toNat ≤ 57 ∨ b.toNat = 95)) := rfl
  generalize b.toNat = n at *
  go_enter Tryd.func67, Tryd.ntmps67
  go_wp2
  all_goals (go_ret; refine ⟨?_, rfl⟩; rw [HP.out]; refine congrArg (fun b => Ending.returned (Value.bool b)) ?_; rw [Bool.eq_iff_iff]; simp; try omega)

set_option maxHeartbeats 2000000 in
theorem quotable_any (b : UInt8) (w : World) : Calls Tryd.prog 79 #[.int .u8 (b.toNat : Int)] w fun e w' => e = .returned (.bool (Tk.quotB b)) ∧ w = w' := by
  have HP : Hid (Tk.quotB b = decide (33 ≤ b.toNat ∧ b.toNat ≤ 126 ∧ b.toNat ≠ 34)) := rfl
  generalize b.toNat = n at *
  go_enter Tryd.func79, Tryd.ntmps79
  go_wp2
  all_goals (go_ret; refine ⟨?_, rfl⟩; rw [HP.out]; refine congrArg (fun b => Ending.returned (Value.bool b)) ?_; rw [Bool.eq_iff_iff]; simp; try omega)

end Go.Proofs.YtlddnejjpekgeaaDoor
/- Tokens: runs of bytes, signs, quoted names, the first token. -/
namespace Go.Proofs.YtlddnejjpekgeaaDoor
open Go.RowKit
attribute [local go_sem] bsv_size

set_option maxHeartbeats 2000000 in
theorem run_blank (s : Tk.Bs) (w : World) (hs : s.length ≤ 100000) : Calls Tryd.prog 61 #[.string (bsv s), .func (.func 62) #[] #[]] w fun e w' => e = .returned (.int .i64 (Tk.runS Tk.blankB s : Nat)) ∧ w = w' := by
  go_enter Tryd.func61, Tryd.ntmps61
  go_wp2
  go_loopw [5] (fun i wr => ∃ k : Nat, k ≤ s.length ∧ i = .int .i64 (k : Int) ∧ (∀ j (hj : j < s.length), j < k → Tk.blankB (s[j]) = true) ∧ w = wr) (fun i _ => s.length - (intOf i).toNat)
  case atStart => exact ⟨0, Nat.zero_le _, rfl, fun _ _ h => absurd h (Nat.not_lt_zero _), rfl⟩
  case round =>
    obtain ⟨k, hk, rfl, hj, rfl⟩ := hrel
    by_cases hlt : k < s.length
    · have hix := ix_bsv s k hlt
      have HJ := Lib.hid hj
      clear hj
      go_wp2_with fail
      refine (blank_any (s[k]) w).mono ?_
      rintro e w1 ⟨rfl, rfl⟩
      cases hp : Tk.blankB (s[k]) with
      | false =>
        go_wp2
        go_ret
        refine ⟨?_, rfl⟩
        rw [Tk.run_of hk HJ.out (fun _ => hp)]
        rfl
      | true =>
        go_wp2
        go_roundw
        case rel =>
          refine ⟨k + 1, by omega, by go_num, fun j hj h => ?_, trivial⟩
          by_cases hjk : j = k
          · subst hjk
            exact hp
          · exact HJ.out j hj (by omega)
        case measure => simp [intOf]; omega
    · obtain rfl : k = s.length := by omega
      have HJ := Lib.hid hj
      clear hj
      go_wp2
      go_ret
      refine ⟨?_, rfl⟩
      rw [Tk.run_of (Nat.le_refl _) HJ.out (fun h => absurd h (Nat.lt_irrefl _))]
      rfl

set_option maxHeartbeats 2000000 in
theorem run_plain (s : Tk.Bs) (w : World) (hs : s.length ≤ 100000) : Calls Tryd.prog 61 #[.string (bsv s), .func (.func 63) #[] #[]] w fun e w' => e = .returned (.int .i64 (Tk.runS Tk.plainB s : Nat)) ∧ w = w' := by
  go_enter Tryd.func61, Tryd.ntmps61
  go_wp2
  go_loopw [5] (fun i wr => ∃ k : Nat, k ≤ s.length ∧ i = .int .i64 (k : Int) ∧ (∀ j (hj : j < s.length), j < k → Tk.plainB (s[j]) = true) ∧ w = wr) (fun i _ => s.length - (intOf i).toNat)
  case atStart => exact ⟨0, Nat.zero_le _, rfl, fun _ _ h => absurd h (Nat.not_lt_zero _), rfl⟩
  case round =>
    obtain ⟨k, hk, rfl, hj, rfl⟩ := hrel
    by_cases hlt : k < s.length
    · have hix := ix_bsv s k hlt
      have HJ := Lib.hid hj
      clear hj
      go_wp2_with fail
      refine (plain_any (s[k]) w).mono ?_
      rintro e w1 ⟨rfl, rfl⟩
      cases hp : Tk.plainB (s[k]) with
      | false =>
        go_wp2
        go_ret
        refine ⟨?_, rfl⟩
        rw [Tk.run_of hk HJ.out (fun _ => hp)]
        rfl
      | true =>
        go_wp2
        go_roundw
        case rel =>
          refine ⟨k + 1, by omega, by go_num, fun j hj h => ?_, trivial⟩
          by_cases hjk : j = k
          · subst hjk
            exact hp
          · exact HJ.out j hj (by omega)
        case measure => simp [intOf]; omega
    · obtain rfl : k = s.length := by omega
      have HJ := Lib.hid hj
      clear hj
      go_wp2
      go_ret
      refine ⟨?_, rfl⟩
      rw [Tk.run_of (Nat.le_refl _) HJ.out (fun h => absurd h (Nat.lt_irrefl _))]
      rfl

set_option maxHeartbeats 2000000 in
theorem run_quotable (s : Tk.Bs) (w : World) (hs : s.length ≤ 100000) : Calls Tryd.prog 61 #[.string (bsv s), .func (.func 79) #[] #[]] w fun e w' => e = .returned (.int .i64 (Tk.runS Tk.quotB s : Nat)) ∧ w = w' := by
  go_enter Tryd.func61, Tryd.ntmps61
  go_wp2
  go_loopw [5] (fun i wr => ∃ k : Nat, k ≤ s.length ∧ i = .int .i64 (k : Int) ∧ (∀ j (hj : j < s.length), j < k → Tk.quotB (s[j]) = true) ∧ w = wr) (fun i _ => s.length - (intOf i).toNat)
  case atStart => exact ⟨0, Nat.zero_le _, rfl, fun _ _ h => absurd h (Nat.not_lt_zero _), rfl⟩
  case round =>
    obtain ⟨k, hk, rfl, hj, rfl⟩ := hrel
    by_cases hlt : k < s.length
    · have hix := ix_bsv s k hlt
      have HJ := Lib.hid hj
      clear hj
      go_wp2_with fail
      refine (quotable_any (s[k]) w).mono ?_
      rintro e w1 ⟨rfl, rfl⟩
      cases hp : Tk.quotB (s[k]) with
      | false =>
        go_wp2
        go_ret
        refine ⟨?_, rfl⟩
        rw [Tk.run_of hk HJ.out (fun _ => hp)]
        rfl
      | true =>
        go_wp2
        go_roundw
        case rel =>
          refine ⟨k + 1, by omega, by go_num, fun j hj h => ?_, trivial⟩
          by_cases hjk : j = k
          · subst hjk
            exact hp
          · exact HJ.out j hj (by omega)
        case measure => simp [intOf]; omega
    · obtain rfl : k = s.length := by omega
      have HJ := Lib.hid hj
      clear hj
      go_wp2
      go_ret
      refine ⟨?_, rfl⟩
      rw [Tk.run_of (Nat.le_refl _) HJ.out (fun h => absurd h (Nat.lt_irrefl _))]
      rfl

set_option maxHeartbeats 1000000 in
theorem behind_any (s : Tk.Bs) (a : Nat) (w : World) (hs : s.length ≤ 100000) (ha : a ≤ s.length) : Calls Tryd.prog 49 #[.string (bsv s), .int .i64 (a : Int)] w fun e w' => e = .returned (.int .i64 (Tk.skipS s a : Nat)) ∧ w = w' := by
  have hsl := sl_bsv s a ha
  have HR := Lib.hid (run_blank (s.drop a) w (by rw [List.length_drop]; omega))
  have hle := Tk.run_le Tk.blankB (s.drop a)
  rw [List.length_drop] at hle
  unfold Tk.skipS
  generalize Tk.runS Tk.blankB (s.drop a) = n at *
  go_enter Tryd.func49, Tryd.ntmps49
  go_wp2_with fail
  refine HR.out.mono ?_
  rintro e w1 ⟨rfl, rfl⟩
  go_wp2
  go_ret
  exact ⟨by simp, rfl⟩
theorem prefix_take (x s : Tk.Bs) (h : x.length ≤ s.length) : (s.take x.length == x) = x.isPrefixOf s := by
  rw [Bool.eq_iff_iff, List.isPrefixOf_iff_prefix, List.prefix_iff_eq_take]
  simp
  exact eq_comm
theorem prefix_long (x s : Tk.Bs) (h : ¬ x.length ≤ s.length) : x.isPrefixOf s = false := by
  cases e : x.isPrefixOf s with
  | false => rfl
  | true => exact absurd (Tk.prefix_len e) h
set_option maxHeartbeats 1000000 in
theorem has32 (s x : Tk.Bs) (w : World) (hs : s.length ≤ 100000) (hx : x.length ≤ 100000) : Calls Tryd.prog 87 #[.string (bsv s), .string (bsv x)] w fun e w' => e = .returned (.bool (x.isPrefixOf s)) ∧ w = w' := by
  by_cases h : x.length ≤ s.length
  · have HP := Lib.hid (prefix_take x s h)
    have hsl : ∀ w, (Instr.slice 9 (.string (bsv s)) none (some (.int .i64 (x.length : Int))) none).run Tryd.prog w = .ok (.string (bsv (s.take x.length))) w := fun w => by
      have e := bsv_extract s 0 x.length
      rw [List.drop_zero, Nat.sub_zero] at e
      rw [← e]
      have : (x.length : Int) ≤ ((bsv s).size : Int) := by rw [bsv_size]; omega
      go_simp
    have heq := eq_bsv (s.take x.length) x
    go_enter Tryd.func87, Tryd.ntmps87
    go_wp2
    go_ret
    exact ⟨by rw [← HP.out]; rfl, rfl⟩
  · have HP := Lib.hid (prefix_long x s h)
    go_enter Tryd.func87, Tryd.ntmps87
    go_wp2
    go_ret
    exact ⟨by rw [HP.out]; rfl, rfl⟩
set_option maxHeartbeats 1000000 in
theorem has29 (s x : Tk.Bs) (w : World) (hs : s.length ≤ 100000) (hx : x.length ≤ 100000) : Calls Tryd.prog 80 #[.string (bsv s), .string (bsv x)] w fun e w' => e = .returned (.bool (x.isPrefixOf s)) ∧ w = w' := by
  have HR := Lib.hid (has32 s x w hs hx)
  go_enter Tryd.func80, Tryd.ntmps80
  go_wp2_with fail
  refine HR.out.mono ?_
  rintro e w1 ⟨rfl, rfl⟩
  go_wp2
  go_ret
  exact ⟨rfl, rfl⟩

set_option maxHeartbeats 1000000 in
theorem cut31 (s x : Tk.Bs) (w : World) (hs : s.length ≤ 100000) (hx : x.length ≤ 100000) : Calls Tryd.prog 86 #[.string (bsv s), .string (bsv x)] w fun e w' => e = .returned (.tuple #[.string (bsv (if x.isPrefixOf s = true then s.drop x.length else s)), .bool (x.isPrefixOf s)]) ∧ w = w' := by
  have HR := Lib.hid (has32 s x w hs hx)
  cases h : x.isPrefixOf s with
  | false =>
    rw [h] at HR
    go_enter Tryd.func86, Tryd.ntmps86
    go_wp2_with fail
    refine HR.out.mono ?_
    rintro e w1 ⟨rfl, rfl⟩
    go_wp2
    go_ret2
    exact ⟨rfl, rfl⟩
  | true =>
    rw [h] at HR
    have hsl := sl_bsv s x.length (Tk.prefix_len h)
    go_enter Tryd.func86, Tryd.ntmps86
    go_wp2_with fail
    refine HR.out.mono ?_
    rintro e w1 ⟨rfl, rfl⟩
    go_wp2
    go_ret2
    exact ⟨rfl, rfl⟩
set_option maxHeartbeats 1000000 in
theorem cut27 (s x : Tk.Bs) (w : World) (hs : s.length ≤ 100000) (hx : x.length ≤ 100000) : Calls Tryd.prog 78 #[.string (bsv s), .string (bsv x)] w fun e w' => e = .returned (.tuple #[.string (bsv (if x.isPrefixOf s = true then s.drop x.length else s)), .bool (x.isPrefixOf s)]) ∧ w = w' := by
  have HR := Lib.hid (cut31 s x w hs hx)
  generalize (if x.isPrefixOf s = true then s.drop x.length else s) = y at *
  generalize x.isPrefixOf s = b at *
  go_enter Tryd.func78, Tryd.ntmps78
  go_wp2_with fail
  refine HR.out.mono ?_
  rintro e w1 ⟨rfl, rfl⟩
  go_wp2
  go_ret2
  exact ⟨rfl, rfl⟩

end Go.Proofs.YtlddnejjpekgeaaDoor
/- Tokens: signs, quoted names, the first token of a text. -/
namespace Go.Proofs.YtlddnejjpekgeaaDoor
open Go.RowKit
attribute [local go_sem] bsv_size

/-- The signs in memory. -/
def Sig (w : World) : Prop := ∀ i, i < 9 → w.cell? ⟨0, i, none⟩ = some (.string (bsv (Tk.signsL.getD i [])))
theorem Sig.below {B : Nat} {w w' : World} (h : Sig w) (hb : Below B w w') (hB : 0 < B) : Sig w' := fun i hi => (hb.cell (p := ⟨_, i, none⟩) hB).trans (h i hi)
theorem prefix_one (s : Tk.Bs) : ([34] : Tk.Bs).isPrefixOf s = decide (s[0]? = some 34) := by
  cases s with
  | nil => rfl
  | cons b t =>
    rw [Bool.eq_iff_iff]
    simp [List.isPrefixOf]
    exact eq_comm
set_option maxHeartbeats 2000000 in
theorem quoted_any (s : Tk.Bs) (w : World) (hs : s.length ≤ 100000) : Calls Tryd.prog 64 #[.string (bsv s)] w fun e w' => e = .returned (.int .i64 (Tk.quotedS s : Nat)) ∧ w = w' := by
  have HC := Lib.hid (cut27 s [34] w hs (by simp))
  rw [prefix_one] at HC
  have HQ : Hid (Tk.quotedS s = if s[0]? = some 34 ∧ Tk.runS Tk.quotB (s.drop 1) ≠ 0 ∧ (s.drop 1)[Tk.runS Tk.quotB (s.drop 1)]? = some 34 then Tk.runS Tk.quotB (s.drop 1) + 2 else 0) := rfl
  generalize Tk.quotedS s = q at *
  have HR := Lib.hid (run_quotable s w hs)
  have HR1 := Lib.hid (run_quotable (s.drop 1) w (by rw [List.length_drop]; omega))
  go_enter Tryd.func64, Tryd.ntmps64
  go_wp2_with fail
  refine HC.out.mono ?_
  by_cases h0 : s[0]? = some 34
  · have d0 : decide (s[0]? = some 34) = true := decide_eq_true h0
    rw [d0]
    simp only [if_true, List.length_cons, List.length_nil, Nat.zero_add]
    have HQ2 : Hid (q = if Tk.runS Tk.quotB (s.drop 1) ≠ 0 ∧ (s.drop 1)[Tk.runS Tk.quotB (s.drop 1)]? = some 34 then Tk.runS Tk.quotB (s.drop 1) + 2 else 0) := by
      unfold Hid
      rw [HQ.out]
      simp only [h0, true_and]
    have hle := Tk.run_le Tk.quotB (s.drop 1)
    have HD : Hid ((s.drop 1).length ≤ 100000) := by unfold Hid; rw [List.length_drop]; omega
    clear HQ HC HR d0 h0
    generalize s.drop 1 = u at *
    rintro e w1 ⟨rfl, rfl⟩
    go_wp2_with fail
    refine HR1.out.mono ?_
    rintro e w1 ⟨rfl, rfl⟩
    clear HR1
    generalize hn : Tk.runS Tk.quotB u = n at *
    have HN := Lib.hid hn
    have HU := HD.out
    clear hn HD
    by_cases hn0 : n = 0
    · subst hn0
      go_wp2
      go_ret
      exact ⟨by rw [HQ2.out]; simp, rfl⟩
    · by_cases hnl : n = u.length
      · have d1 : ((n : Int) == 0) = false := by rw [beq_eq_false_iff_ne]; omega
        have HQ3 : Hid (q = 0) := by
          unfold Hid
          rw [HQ2.out, if_neg]
          intro h
          rw [hnl, List.getElem?_eq_none (Nat.le_refl _)] at h
          cases h.2
        rw [hnl] at d1
        subst hnl
        go_wp2
        go_ret
        exact ⟨by rw [HQ3.out]; rfl, rfl⟩
      · have d1 : ((n : Int) == 0) = false := by rw [beq_eq_false_iff_ne]; omega
        have d2 : ((n : Int) == (u.length : Int)) = false := by rw [beq_eq_false_iff_ne]; omega
        have hlt : n < u.length := by omega
        have hix := ix_bsv u n hlt
        have HQ3 : Hid (q = if (u[n]).toNat = 34 then n + 2 else 0) := by
          unfold Hid
          rw [HQ2.out, List.getElem?_eq_getElem hlt]
          simp only [ne_eq, hn0, not_false_eq_true, true_and, Option.some.injEq]
          have : (u[n] = 34) ↔ ((u[n]).toNat = 34) := ⟨fun h => by rw [h]; rfl, fun h => UInt8.toNat_inj.1 h⟩
          simp only [this]
        clear HQ2
        generalize (u[n]).toNat = b at *
        by_cases hb : b = 34
        · subst hb
          go_wp2
          go_ret
          exact ⟨by rw [HQ3.out]; simp, rfl⟩
        · have hb2 : ((b : Int) == 34) = false := by rw [beq_eq_false_iff_ne]; omega
          go_wp2
          go_ret
          exact ⟨by rw [HQ3.out, if_neg hb]; rfl, rfl⟩
  · have d0 : decide (s[0]? = some 34) = false := decide_eq_false h0
    rw [d0]
    simp only [Bool.false_eq_true, if_false]
    have HQ2 : Hid (q = 0) := by
      unfold Hid
      rw [HQ.out, if_neg (fun h => h0 h.1)]
    clear HQ HR1 HC d0 h0
    rintro e w1 ⟨rfl, rfl⟩
    go_wp2_with fail
    refine HR.out.mono ?_
    rintro e w1 ⟨rfl, rfl⟩
    go_wp2
    go_ret
    exact ⟨by rw [HQ2.out]; rfl, rfl⟩
set_option maxRecDepth 10000 in
theorem ix_signs (k : Nat) (h : k < 9) (w : World) : (Instr.index 101 (.agg #[.string (bsv [60, 45, 62]), .string (bsv [45, 62]), .string (bsv [33]), .string (bsv [38]), .string (bsv [124]), .string (bsv [40]), .string (bsv [41]), .string (bsv [91]), .string (bsv [93])]) (.int .i64 (k : Int))).run Tryd.prog w = .ok (.string (bsv (Tk.signsL.getD k []))) w := by
  have : k = 0 ∨ k = 1 ∨ k = 2 ∨ k = 3 ∨ k = 4 ∨ k = 5 ∨ k = 6 ∨ k = 7 ∨ k = 8 := by omega
  rcases this with rfl | rfl | rfl | rfl | rfl | rfl | rfl | rfl | rfl <;> (go_simp; rfl)
theorem signIn_no {x : Tk.Bs} {r : List Tk.Bs} {s : Tk.Bs} (h : x.isPrefixOf s = false) : Tk.signIn (x :: r) s = Tk.signIn r s := by rw [Tk.signIn, h]; rfl
theorem signIn_yes {x : Tk.Bs} {r : List Tk.Bs} {s : Tk.Bs} (h : x.isPrefixOf s = true) : Tk.signIn (x :: r) s = x.length := by rw [Tk.signIn, h]; rfl
theorem signs_drop (k : Nat) (h : k < 9) : Tk.signsL.drop k = Tk.signsL.getD k [] :: Tk.signsL.drop (k + 1) := by
  have h' : k < Tk.signsL.length := h
  rw [List.drop_eq_getElem_cons h', List.getD_eq_getElem?_getD, List.getElem?_eq_getElem h']
  rfl
theorem signs_short (k : Nat) : (Tk.signsL.getD k []).length ≤ 3 := by
  by_cases h : k < 9
  · have : k = 0 ∨ k = 1 ∨ k = 2 ∨ k = 3 ∨ k = 4 ∨ k = 5 ∨ k = 6 ∨ k = 7 ∨ k = 8 := by omega
    rcases this with rfl | rfl | rfl | rfl | rfl | rfl | rfl | rfl | rfl <;> decide
  · rw [List.getD_eq_getElem?_getD, List.getElem?_eq_none (show Tk.signsL.length ≤ k from by show 9 ≤ k; omega)]
    decide
set_option maxRecDepth 10000 in
set_option maxHeartbeats 2000000 in
theorem sign_any (s : Tk.Bs) (w : World) (hs : s.length ≤ 100000) (hg : Sig w) : Calls Tryd.prog 65 #[.string (bsv s)] w fun e w' => e = .returned (.int .i64 (Tk.signS s : Nat)) ∧ w = w' := by
  have c0 := hg 0 (by omega)
  have c1 := hg 1 (by omega)
  have c2 := hg 2 (by omega)
  have c3 := hg 3 (by omega)
  have c4 := hg 4 (by omega)
  have c5 := hg 5 (by omega)
  have c6 := hg 6 (by omega)
  have c7 := hg 7 (by omega)
  have c8 := hg 8 (by omega)
  simp only [Tk.signsL, List.getD_cons_zero, List.getD_cons_succ] at c0 c1 c2 c3 c4 c5 c6 c7 c8
  have HG := Lib.hid hg
  clear hg
  go_enter Tryd.func65, Tryd.ntmps65
  go_wp2
  clear c0 c1 c2 c3 c4 c5 c6 c7 c8
  go_loopw [6] (fun i wr => ∃ k : Nat, k ≤ 9 ∧ i = .int .i64 (k : Int) ∧ Tk.signS s = Tk.signIn (Tk.signsL.drop k) s ∧ w = wr) (fun i _ => 9 - (intOf i).toNat)
  case atStart => exact ⟨0, Nat.zero_le _, rfl, rfl, rfl⟩
  case round =>
    obtain ⟨k, hk, rfl, hj, rfl⟩ := hrel
    have HJ := Lib.hid hj
    clear hj
    by_cases hlt : k < 9
    · have hix := ix_signs k hlt
      have HS := Lib.hid (signs_drop k hlt)
      have hsh := signs_short k
      generalize Tk.signsL.getD k [] = x at *
      have HH := Lib.hid (has29 s x w hs (by omega))
      cases hp : x.isPrefixOf s with
      | false =>
        rw [hp] at HH
        have HN := Lib.hid (signIn_no (r := Tk.signsL.drop (k + 1)) hp)
        clear hp
        go_wp2_with fail
        refine HH.out.mono ?_
        rintro e w1 ⟨rfl, rfl⟩
        go_wp2
        go_roundw
        case rel => exact ⟨k + 1, by omega, by go_num, by rw [HJ.out, HS.out, HN.out], trivial⟩
        case measure => simp [intOf]; omega
      | true =>
        rw [hp] at HH
        have HN := Lib.hid (signIn_yes (r := Tk.signsL.drop (k + 1)) hp)
        clear hp
        go_wp2_with fail
        refine HH.out.mono ?_
        rintro e w1 ⟨rfl, rfl⟩
        go_wp2
        go_ret
        exact ⟨by rw [HJ.out, HS.out, HN.out]; rfl, rfl⟩
    · obtain rfl : k = 9 := by omega
      go_wp2
      go_ret
      exact ⟨by rw [HJ.out]; rfl, rfl⟩
/-- A kind and a length, as first hands them back. -/
def firstV (p : Nat × Nat) : Value := .tuple #[.int .i64 (p.1 : Int), .int .i64 (p.2 : Int)]
set_option maxHeartbeats 2000000 in
theorem first_any (s : Tk.Bs) (w : World) (hs : s.length ≤ 100000) (hg : Sig w) : Calls Tryd.prog 50 #[.string (bsv s)] w fun e w' => e = .returned (firstV (Tk.firstS s)) ∧ w = w' := by
  have HF : Hid (Tk.firstS s = if Tk.runS Tk.plainB s ≠ 0 then (1, Tk.runS Tk.plainB s) else if Tk.quotedS s ≠ 0 then (1, Tk.quotedS s) else (2, Tk.signS s)) := rfl
  have HR := Lib.hid (run_plain s w hs)
  have HQ := Lib.hid (quoted_any s w hs)
  have HS := Lib.hid (sign_any s w hs hg)
  clear hg
  generalize Tk.firstS s = f at *
  generalize Tk.runS Tk.plainB s = n at *
  generalize Tk.quotedS s = q at *
  generalize Tk.signS s = g at *
  go_enter Tryd.func50, Tryd.ntmps50
  go_wp2_with fail
  refine HR.out.mono ?_
  rintro e w1 ⟨rfl, rfl⟩
  by_cases hn : n = 0
  · subst hn
    go_wp2_with fail
    refine HQ.out.mono ?_
    rintro e w1 ⟨rfl, rfl⟩
    by_cases hq : q = 0
    · subst hq
      go_wp2_with fail
      refine HS.out.mono ?_
      rintro e w1 ⟨rfl, rfl⟩
      go_wp2
      go_ret2
      exact ⟨by rw [HF.out]; rfl, rfl⟩
    · have hq0 : 0 < q := by omega
      go_wp2
      go_ret2
      exact ⟨by rw [HF.out, if_neg (by simp), if_pos hq]; rfl, rfl⟩
  · have hn0 : 0 < n := by omega
    go_wp2
    go_ret2
    exact ⟨by rw [HF.out, if_pos hn]; rfl, rfl⟩
end Go.Proofs.YtlddnejjpekgeaaDoor
/- Tokens: how a reading goes on. -/
namespace Go.Proofs.YtlddnejjpekgeaaDoor
namespace Tk
/-- The tokens ts have been read, and the next one begins at a. -/
def Mid (s : Bs) (ts : List Tok) (a : Nat) : Prop := a ≤ s.length ∧ ∃ n, s.length + 1 ≤ n + a ∧ lexS s = (ts ++ (scan s n a).1, (scan s n a).2)
theorem mid_start (s : Bs) : Mid s [] (skipS s 0) := ⟨skip_le s 0 (Nat.zero_le _), s.length + 1, by omega, rfl⟩
theorem mid_end {s : Bs} {ts : List Tok} {a : Nat} (h : Mid s ts a) (ha : s.length ≤ a) : lexS s = (ts ++ [⟨0, [], s.length⟩], none) := by
  obtain ⟨h1, n, h2, h3⟩ := h
  obtain ⟨m, rfl⟩ : ∃ m, n = m + 1 := ⟨n - 1, by omega⟩
  rw [h3, scan_end ha]
theorem mid_bad {s : Bs} {ts : List Tok} {a : Nat} (h : Mid s ts a) (ha : a < s.length) (h0 : (firstS (s.drop a)).2 = 0) : lexS s = (ts, some a) := by
  obtain ⟨h1, n, h2, h3⟩ := h
  obtain ⟨m, rfl⟩ : ∃ m, n = m + 1 := ⟨n - 1, by omega⟩
  rw [h3, scan_bad ha h0, List.append_nil]
theorem first_room {s : Bs} {a : Nat} (ha : a ≤ s.length) : a + (firstS (s.drop a)).2 ≤ s.length := by
  have := first_le (s.drop a)
  rw [List.length_drop] at this
  omega
theorem mid_tok {s : Bs} {ts : List Tok} {a : Nat} (h : Mid s ts a) (ha : a < s.length) (h0 : (firstS (s.drop a)).2 ≠ 0) : Mid s (ts ++ [⟨(firstS (s.drop a)).1, (s.drop a).take (firstS (s.drop a)).2, a⟩]) (skipS s (a + (firstS (s.drop a)).2)) := by
  obtain ⟨h1, n, h2, h3⟩ := h
  obtain ⟨m, rfl⟩ : ∃ m, n = m + 1 := ⟨n - 1, by omega⟩
  refine ⟨skip_le s _ (first_room h1), m, ?_, ?_⟩
  · have := skip_ge s (a + (firstS (s.drop a)).2)
    omega
  · rw [h3, scan_tok ha h0]
    simp
theorem mid_items {s : Bs} {ts : List Tok} {a : Nat} (h : Mid s ts a) : ∃ suf, ts.map (fun t => (t, 0)) ++ suf = itemsS s := by
  obtain ⟨h1, n, h2, h3⟩ := h
  unfold itemsS
  rw [h3]
  simp only [List.map_append, List.append_assoc]
  exact ⟨_, rfl⟩
theorem mid_len {s : Bs} {ts : List Tok} {a : Nat} (h : Mid s ts a) : ts.length ≤ s.length + 1 := by
  obtain ⟨h1, n, h2, h3⟩ := h
  have := scan_len s (s.length + 1) (skipS s 0)
  have h4 : (scan s (s.length + 1) (skipS s 0)).1 = ts ++ (scan s n a).1 := congrArg Prod.fst h3
  rw [h4, List.length_append] at this
  omega
theorem items_end {s : Bs} {ts : List Tok} {a : Nat} (h : Mid s ts a) (ha : s.length ≤ a) : itemsS s = ts.map (fun t => (t, 0)) ++ [(⟨0, [], s.length⟩, 0)] := by
  unfold itemsS
  rw [mid_end h ha]
  simp
theorem items_bad {s : Bs} {ts : List Tok} {a : Nat} (h : Mid s ts a) (ha : a < s.length) (h0 : (firstS (s.drop a)).2 = 0) : itemsS s = ts.map (fun t => (t, 0)) ++ [(⟨0, [], a⟩, 40)] := by
  unfold itemsS
  rw [mid_bad h ha h0]
end Tk
end Go.Proofs.YtlddnejjpekgeaaDoor
