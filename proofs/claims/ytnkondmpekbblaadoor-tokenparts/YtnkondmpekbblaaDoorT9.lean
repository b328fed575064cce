/- Tokens: what any right program answers. -/
import Derived.Test.YtnkondmpekbblaaDoorT8
namespace Go.Proofs.YtnkondmpekbblaaDoor
open Go.RowKit
attribute [local go_sem] bsv_size

def awakeA : Tk.Bs := [65, 71, 40, 97, 45, 62, 34, 98, 46, 99, 34, 41]
def awakeB : Tk.Bs := [97, 32, 63]
def awakeT : List Tk.Tok := [⟨1, [65, 71], 0⟩, ⟨2, [40], 2⟩, ⟨1, [97], 3⟩, ⟨2, [45, 62], 4⟩, ⟨1, [34, 98, 46, 99, 34], 6⟩, ⟨2, [41], 11⟩, ⟨0, [], 12⟩]
theorem awakeA_lex : Tk.lexA awakeA = (awakeT, 0, 0) := by rfl
theorem awakeB_lex : Tk.lexA awakeB = ([], 40, 2) := by rfl
set_option maxRecDepth 100000 in
set_option maxHeartbeats 4000000 in
theorem awake_any (w : World) (hg : Sig w) (h0 : 0 < w.heap.size) : Calls Tryd.prog 7 #[] w fun e w' => e = .returned (.bool true) ∧ Below w.heap.size w w' := by
  have HA : Hid (∀ w, Sig w → 0 < w.heap.size → Calls Tryd.prog 10 #[.string ⟨#[65, 71, 40, 97, 45, 62, 34, 98, 46, 99, 34, 41]⟩] w fun e w' => ∃ v, e = .returned (.tuple #[v, .int .i64 0, .int .i64 0]) ∧ w'.ownsRow w.heap.size 32 3 v 7 (flatT awakeT) ∧ Below w.heap.size w w') := fun w hg h0 => (lex_any awakeA w (by decide) hg h0).mono (fun e w' h => by
    rw [LexP, awakeA_lex] at h
    exact h)
  have HB : Hid (∀ w, Sig w → 0 < w.heap.size → Calls Tryd.prog 10 #[.string ⟨#[97, 32, 63]⟩] w fun e w' => ∃ v, e = .returned (.tuple #[v, .int .i64 40, .int .i64 2]) ∧ w'.ownsRow w.heap.size 32 3 v 0 [] ∧ Below w.heap.size w w') := fun w hg h0 => (lex_any awakeB w (by decide) hg h0).mono (fun e w' h => by
    rw [LexP, awakeB_lex] at h
    exact h)
  have e1 : (bsv [65, 71]).toList = [65, 71] := by rw [Lib.toList_data]; rfl
  have e2 : (bsv [45, 62]).toList = [45, 62] := by rw [Lib.toList_data]; rfl
  have e3 : (bsv [34, 98, 46, 99, 34]).toList = [34, 98, 46, 99, 34] := by rw [Lib.toList_data]; rfl
  go_enter Tryd.func7, Tryd.ntmps7
  go_wp2_with fail
  refine (HA.out w hg h0).mono ?_
  rintro e w1 ⟨v, rfl, hrow, hlo⟩
  obtain ⟨A, c, rfl, hT⟩ := row_tr (ts := awakeT) hrow
  clear hrow
  go_wp2_with fail
  refine (HB.out w1 (hg.below hlo h0) (Nat.lt_of_lt_of_le h0 hlo.size)).mono ?_
  rintro e w2 ⟨v2, rfl, hrow2, hlo2⟩
  obtain ⟨A2, c2, rfl⟩ := row_slice hrow2
  have hT2 := hT.below hlo2
  have lo : Below w.heap.size w w2 := hlo.trans (hlo2.mono hlo.size)
  clear hrow2 hlo2 hlo hT HA HB
  obtain ⟨b, off, rfl, _, _, g1, _⟩ := hT2 0 (by decide)
  obtain ⟨_, _, e4, _, _, g4, _⟩ := hT2 3 (by decide)
  obtain ⟨_, _, e5, _, _, g5, _⟩ := hT2 4 (by decide)
  obtain ⟨_, _, e6, _, _, _, g6⟩ := hT2 6 (by decide)
  cases e4
  cases e5
  cases e6
  have i0 : ∀ w, (Instr.indexAt 27 (.slice (some ⟨b, off, none⟩) 7 c) (.int .i64 0)).run Tryd.prog w = .ok (.pointer (some ⟨b, off, none⟩)) w := ixT b off 7 c 0 (by omega) (by omega)
  have i3 : ∀ w, (Instr.indexAt 27 (.slice (some ⟨b, off, none⟩) 7 c) (.int .i64 3)).run Tryd.prog w = .ok (.pointer (some ⟨b, off + 9, none⟩)) w := ixT b off 7 c 3 (by omega) (by omega)
  have i4 : ∀ w, (Instr.indexAt 27 (.slice (some ⟨b, off, none⟩) 7 c) (.int .i64 4)).run Tryd.prog w = .ok (.pointer (some ⟨b, off + 12, none⟩)) w := ixT b off 7 c 4 (by omega) (by omega)
  have i6 : ∀ w, (Instr.indexAt 27 (.slice (some ⟨b, off, none⟩) 7 c) (.int .i64 6)).run Tryd.prog w = .ok (.pointer (some ⟨b, off + 18, none⟩)) w := ixT b off 7 c 6 (by omega) (by omega)
  replace g1 : w2.cell? ⟨b, off + 1, none⟩ = some (.string (bsv [65, 71])) := g1
  replace g4 : w2.cell? ⟨b, off + 9 + 1, none⟩ = some (.string (bsv [45, 62])) := g4
  replace g5 : w2.cell? ⟨b, off + 12 + 1, none⟩ = some (.string (bsv [34, 98, 46, 99, 34])) := g5
  replace g6 : w2.cell? ⟨b, off + 18 + 2, none⟩ = some (.int .i64 12) := g6
  rw [show awakeT.length = 7 from rfl]
  clear hT2
  go_wp2
  go_ret
  exact ⟨rfl, lo⟩
end Go.Proofs.YtnkondmpekbblaaDoor
