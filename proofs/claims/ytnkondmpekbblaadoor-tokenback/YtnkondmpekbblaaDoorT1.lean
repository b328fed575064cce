/- Tokens: runs of bytes, signs, quoted names, the first token. -/
import Derived.Test.YtnkondmpekbblaaDoorT0
namespace Go.Proofs.YtnkondmpekbblaaDoor
open Go.RowKit
attribute [local go_sem] bsv_size

set_option maxHeartbeats 2000000 in
theorem run_blank (s : Tk.Bs) (w : World) (hs : s.length ≤ 100000) : Calls Tryd.prog 21 #[.string (bsv s), .func (.func 22) #[] #[]] w fun e w' => e = .returned (.int .i64 (Tk.runS Tk.blankB s : Nat)) ∧ w = w' := by
  go_enter Tryd.func21, Tryd.ntmps21
  go_wp2
  go_loopw [5] (fun i wr => ∃ k : Nat, k ≤ s.length ∧ i = .int .i64 (k : Int) ∧ (∀ j (hj : j < s.length), j < k → Tk.blankB (s[j]) = true) ∧ w = wr) (fun i _ => s.length - (intOf i).toNat)
  case atStart => exact ⟨0, Nat.zero_le _, rfl, fun _ _ h => absurd h (Nat.not_lt_zero _), rfl⟩
  case round =>
    obtain ⟨k, hk, rfl, hj, rfl⟩ := hrel
    by_cases hlt : k < s.length
    · have hix := ix_bsv s k hlt
      have HJ := Lib.hid hj
      clear hj
      go_wp2_with fail
      refine (blank_any (s[k]) w).mono ?_
      rintro e w1 ⟨rfl, rfl⟩
      cases hp : Tk.blankB (s[k]) with
      | false =>
        go_wp2
        go_ret
        refine ⟨?_, rfl⟩
        rw [Tk.run_of hk HJ.out (fun _ => hp)]
        rfl
      | true =>
        go_wp2
        go_roundw
        case rel =>
          refine ⟨k + 1, by omega, by go_num, fun j hj h => ?_, trivial⟩
          by_cases hjk : j = k
          · subst hjk
            exact hp
          · exact HJ.out j hj (by omega)
        case measure => simp [intOf]; omega
    · obtain rfl : k = s.length := by omega
      have HJ := Lib.hid hj
      clear hj
      go_wp2
      go_ret
      refine ⟨?_, rfl⟩
      rw [Tk.run_of (Nat.le_refl _) HJ.out (fun h => absurd h (Nat.lt_irrefl _))]
      rfl

set_option maxHeartbeats 2000000 in
theorem run_plain (s : Tk.Bs) (w : World) (hs : s.length ≤ 100000) : Calls Tryd.prog 21 #[.string (bsv s), .func (.func 23) #[] #[]] w fun e w' => e = .returned (.int .i64 (Tk.runS Tk.plainB s : Nat)) ∧ w = w' := by
  go_enter Tryd.func21, Tryd.ntmps21
  go_wp2
  go_loopw [5] (fun i wr => ∃ k : Nat, k ≤ s.length ∧ i = .int .i64 (k : Int) ∧ (∀ j (hj : j < s.length), j < k → Tk.plainB (s[j]) = true) ∧ w = wr) (fun i _ => s.length - (intOf i).toNat)
  case atStart => exact ⟨0, Nat.zero_le _, rfl, fun _ _ h => absurd h (Nat.not_lt_zero _), rfl⟩
  case round =>
    obtain ⟨k, hk, rfl, hj, rfl⟩ := hrel
    by_cases hlt : k < s.length
    · have hix := ix_bsv s k hlt
      have HJ := Lib.hid hj
      clear hj
      go_wp2_with fail
      refine (plain_any (s[k]) w).mono ?_
      rintro e w1 ⟨rfl, rfl⟩
      cases hp : Tk.plainB (s[k]) with
      | false =>
        go_wp2
        go_ret
        refine ⟨?_, rfl⟩
        rw [Tk.run_of hk HJ.out (fun _ => hp)]
        rfl
      | true =>
        go_wp2
        go_roundw
        case rel =>
          refine ⟨k + 1, by omega, by go_num, fun j hj h => ?_, trivial⟩
          by_cases hjk : j = k
          · subst hjk
            exact hp
          · exact HJ.out j hj (by omega)
        case measure => simp [intOf]; omega
    · obtain rfl : k = s.length := by omega
      have HJ := Lib.hid hj
      clear hj
      go_wp2
      go_ret
      refine ⟨?_, rfl⟩
      rw [Tk.run_of (Nat.le_refl _) HJ.out (fun h => absurd h (Nat.lt_irrefl _))]
      rfl

set_option maxHeartbeats 2000000 in
theorem run_quotable (s : Tk.Bs) (w : World) (hs : s.length ≤ 100000) : Calls Tryd.prog 21 #[.string (bsv s), .func (.func 28) #[] #[]] w fun e w' => e = .returned (.int .i64 (Tk.runS Tk.quotB s : Nat)) ∧ w = w' := by
  go_enter Tryd.func21, Tryd.ntmps21
  go_wp2
  go_loopw [5] (fun i wr => ∃ k : Nat, k ≤ s.length ∧ i = .int .i64 (k : Int) ∧ (∀ j (hj : j < s.length), j < k → Tk.quotB (s[j]) = true) ∧ w = wr) (fun i _ => s.length - (intOf i).toNat)
  case atStart => exact ⟨0, Nat.zero_le _, rfl, fun _ _ h => absurd h (Nat.not_lt_zero _), rfl⟩
  case round =>
    obtain ⟨k, hk, rfl, hj, rfl⟩ := hrel
    by_cases hlt : k < s.length
    · have hix := ix_bsv s k hlt
      have HJ := Lib.hid hj
      clear hj
      go_wp2_with fail
      refine (quotable_any (s[k]) w).mono ?_
      rintro e w1 ⟨rfl, rfl⟩
      cases hp : Tk.quotB (s[k]) with
      | false =>
        go_wp2
        go_ret
        refine ⟨?_, rfl⟩
        rw [Tk.run_of hk HJ.out (fun _ => hp)]
        rfl
      | true =>
        go_wp2
        go_roundw
        case rel =>
          refine ⟨k + 1, by omega, by go_num, fun j hj h => ?_, trivial⟩
          by_cases hjk : j = k
          · subst hjk
            exact hp
          · exact HJ.out j hj (by omega)
        case measure => simp [intOf]; omega
    · obtain rfl : k = s.length := by omega
      have HJ := Lib.hid hj
      clear hj
      go_wp2
      go_ret
      refine ⟨?_, rfl⟩
      rw [Tk.run_of (Nat.le_refl _) HJ.out (fun h => absurd h (Nat.lt_irrefl _))]
      rfl

set_option maxHeartbeats 1000000 in
theorem behind_any (s : Tk.Bs) (a : Nat) (w : World) (hs : s.length ≤ 100000) (ha : a ≤ s.length) : Calls Tryd.prog 18 #[.string (bsv s), .int .i64 (a : Int)] w fun e w' => e = .returned (.int .i64 (Tk.skipS s a : Nat)) ∧ w = w' := by
  have hsl := sl_bsv s a ha
  have HR := Lib.hid (run_blank (s.drop a) w (by rw [List.length_drop]; omega))
  have hle := Tk.run_le Tk.blankB (s.drop a)
  rw [List.length_drop] at hle
  unfold Tk.skipS
  generalize Tk.runS Tk.blankB (s.drop a) = n at *
  go_enter Tryd.func18, Tryd.ntmps18
  go_wp2_with fail
  refine HR.out.mono ?_
  rintro e w1 ⟨rfl, rfl⟩
  go_wp2
  go_ret
  exact ⟨by simp, rfl⟩
theorem prefix_take (x s : Tk.Bs) (h : x.length ≤ s.length) : (s.take x.length == x) = x.isPrefixOf s := by
  rw [Bool.eq_iff_iff, List.isPrefixOf_iff_prefix, List.prefix_iff_eq_take]
  simp
  exact eq_comm
theorem prefix_long (x s : Tk.Bs) (h : ¬ x.length ≤ s.length) : x.isPrefixOf s = false := by
  cases e : x.isPrefixOf s with
  | false => rfl
  | true => exact absurd (Tk.prefix_len e) h
set_option maxHeartbeats 1000000 in
theorem has32 (s x : Tk.Bs) (w : World) (hs : s.length ≤ 100000) (hx : x.length ≤ 100000) : Calls Tryd.prog 32 #[.string (bsv s), .string (bsv x)] w fun e w' => e = .returned (.bool (x.isPrefixOf s)) ∧ w = w' := by
  by_cases h : x.length ≤ s.length
  · have HP := Lib.hid (prefix_take x s h)
    have hsl : ∀ w, (Instr.slice 9 (.string (bsv s)) none (some (.int .i64 (x.length : Int))) none).run Tryd.prog w = .ok (.string (bsv (s.take x.length))) w := fun w => by
      have e := bsv_extract s 0 x.length
      rw [List.drop_zero, Nat.sub_zero] at e
      rw [← e]
      have : (x.length : Int) ≤ ((bsv s).size : Int) := by rw [bsv_size]; omega
      go_simp
    have heq := eq_bsv (s.take x.length) x
    go_enter Tryd.func32, Tryd.ntmps32
    go_wp2
    go_ret
    exact ⟨by rw [← HP.out]; rfl, rfl⟩
  · have HP := Lib.hid (prefix_long x s h)
    go_enter Tryd.func32, Tryd.ntmps32
    go_wp2
    go_ret
    exact ⟨by rw [HP.out]; rfl, rfl⟩
set_option maxHeartbeats 1000000 in
theorem has29 (s x : Tk.Bs) (w : World) (hs : s.length ≤ 100000) (hx : x.length ≤ 100000) : Calls Tryd.prog 29 #[.string (bsv s), .string (bsv x)] w fun e w' => e = .returned (.bool (x.isPrefixOf s)) ∧ w = w' := by
  have HR := Lib.hid (has32 s x w hs hx)
  go_enter Tryd.func29, Tryd.ntmps29
  go_wp2_with fail
  refine HR.out.mono ?_
  rintro e w1 ⟨rfl, rfl⟩
  go_wp2
  go_ret
  exact ⟨rfl, rfl⟩

set_option maxHeartbeats 1000000 in
theorem cut31 (s x : Tk.Bs) (w : World) (hs : s.length ≤ 100000) (hx : x.length ≤ 100000) : Calls Tryd.prog 31 #[.string (bsv s), .string (bsv x)] w fun e w' => e = .returned (.tuple #[.string (bsv (if x.isPrefixOf s = true then s.drop x.length else s)), .bool (x.isPrefixOf s)]) ∧ w = w' := by
  have HR := Lib.hid (has32 s x w hs hx)
  cases h : x.isPrefixOf s with
  | false =>
    rw [h] at HR
    go_enter Tryd.func31, Tryd.ntmps31
    go_wp2_with fail
    refine HR.out.mono ?_
    rintro e w1 ⟨rfl, rfl⟩
    go_wp2
    go_ret2
    exact ⟨rfl, rfl⟩
  | true =>
    rw [h] at HR
    have hsl := sl_bsv s x.length (Tk.prefix_len h)
    go_enter Tryd.func31, Tryd.ntmps31
    go_wp2_with fail
    refine HR.out.mono ?_
    rintro e w1 ⟨rfl, rfl⟩
    go_wp2
    go_ret2
    exact ⟨rfl, rfl⟩
set_option maxHeartbeats 1000000 in
theorem cut27 (s x : Tk.Bs) (w : World) (hs : s.length ≤ 100000) (hx : x.length ≤ 100000) : Calls Tryd.prog 27 #[.string (bsv s), .string (bsv x)] w fun e w' => e = .returned (.tuple #[.string (bsv (if x.isPrefixOf s = true then s.drop x.length else s)), .bool (x.isPrefixOf s)]) ∧ w = w' := by
  have HR := Lib.hid (cut31 s x w hs hx)
  generalize (if x.isPrefixOf s = true then s.drop x.length else s) = y at *
  generalize x.isPrefixOf s = b at *
  go_enter Tryd.func27, Tryd.ntmps27
  go_wp2_with fail
  refine HR.out.mono ?_
  rintro e w1 ⟨rfl, rfl⟩
  go_wp2
  go_ret2
  exact ⟨rfl, rfl⟩

end Go.Proofs.YtnkondmpekbblaaDoor
