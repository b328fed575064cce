/- The law's comparison of both readings; TokenAny's walk. -/
import Derived.Test.YtnkondmpekbblaaDoorTR
namespace Go.Proofs.YtnkondmpekbblaaDoor
open Go.RowKit
attribute [local go_sem] bsv_size

set_option maxHeartbeats 4000000 in
theorem samelaw_any (s : Tk.Bs) (w : World) (hs : s.length ≤ 9223372036854775807) (hT : Tabs w) : Calls Tryd.prog 8 #[.string (bsv s)] w fun e w' => e = .returned (.bool true) ∧ Below w.heap.size w w' := by
  have HA := Lib.hid (lex_any s w hs hT.sig hT.lt)
  have HB := Lib.hid (fun w => reflex_any s w hs)
  unfold LexP at HA HB
  have hlen := Tk.lexA_len s
  generalize Tk.lexA s = r at *
  obtain ⟨ts, e, a⟩ := r
  simp only at hlen HA HB
  go_enter Tryd.func8, Tryd.ntmps8
  go_wp2_with fail
  refine HA.out.mono ?_
  rintro e1 w1 ⟨v, rfl, hrow, hlo⟩
  obtain ⟨A, c, rfl, hT1⟩ := row_tr hrow
  clear hrow HA
  go_wp2_with fail
  refine (HB.out w1).mono ?_
  rintro e1 w2 ⟨v2, rfl, hrow2, hlo2⟩
  obtain ⟨A2, c2, rfl, hT2⟩ := row_tr hrow2
  have hT3 := hT1.below hlo2
  have lo : Below w.heap.size w w2 := hlo.trans (hlo2.mono hlo.size)
  have HS := Lib.hid (sametok_true A A2 c c2 ts w2 (by omega) hT3 hT2)
  clear hrow2 HB hT1 hT2 hT3 hlo hlo2
  have h1 : ((e : Int) == (e : Int)) = true := by simp
  have h2 : ((a : Int) == (a : Int)) = true := by simp
  go_wp2_with fail
  refine HS.out.mono ?_
  rintro e1 w3 ⟨rfl, hlo3⟩
  go_wp2
  go_ret
  exact ⟨rfl, lo.trans (hlo3.mono lo.size)⟩
set_option maxHeartbeats 4000000 in
theorem tokenAny_walk (s0 : ByteArray) (w : World) (hs : s0.size ≤ maxLen) (hT : Tabs w) : Calls Tryd.prog 3 #[.string s0] w fun e w' => e = .returned (.bool true) ∧ Below w.heap.size w w' := by
  have e0 : s0 = bsv s0.data.toList := by
    cases s0
    simp [bsv]
  rw [e0] at hs ⊢
  generalize s0.data.toList = s at *
  clear e0
  rw [bsv_size] at hs
  have hs2 : s.length ≤ 9223372036854775807 := by
    have : maxLen ≤ 9223372036854775807 := by decide
    omega
  clear hs
  have HA := Lib.hid (awake_any w hT.sig hT.lt)
  have HS := Lib.hid (fun w hT => samelaw_any s w hs2 hT)
  go_enter Tryd.func3, Tryd.ntmps3
  go_wp2_with fail
  refine HA.out.mono ?_
  rintro e w1 ⟨rfl, hlo⟩
  have hT1 := hT.below hlo
  clear HA
  by_cases h6 : 600 < s.length
  · have d1 : decide ((600 : Int) < (s.length : Int)) = true := decide_eq_true (by omega)
    by_cases h2 : s.length ≤ 20000
    · have d2 : decide ((s.length : Int) ≤ 20000) = true := decide_eq_true (by omega)
      go_wp2
      go_ret
      exact ⟨rfl, hlo⟩
    · have d2 : decide ((s.length : Int) ≤ 20000) = false := decide_eq_false (by omega)
      go_wp2_with fail
      refine (HS.out w1 hT1).mono ?_
      rintro e w2 ⟨rfl, hlo2⟩
      go_wp2
      go_ret
      exact ⟨rfl, hlo.trans (hlo2.mono hlo.size)⟩
  · have d1 : decide ((600 : Int) < (s.length : Int)) = false := decide_eq_false (by omega)
    go_wp2_with fail
    refine (HS.out w1 hT1).mono ?_
    rintro e w2 ⟨rfl, hlo2⟩
    go_wp2
    go_ret
    exact ⟨rfl, hlo.trans (hlo2.mono hlo.size)⟩
end Go.Proofs.YtnkondmpekbblaaDoor
