/- Tokens: how a reading goes on. -/
import Derived.Test.YtnkondmpekbblaaDoorTM
namespace Go.Proofs.YtnkondmpekbblaaDoor
namespace Tk
/-- The tokens ts have been read, and the next one begins at a. -/
def Mid (s : Bs) (ts : List Tok) (a : Nat) : Prop := a ≤ s.length ∧ ∃ n, s.length + 1 ≤ n + a ∧ lexS s = (ts ++ (scan s n a).1, (scan s n a).2)
theorem mid_start (s : Bs) : Mid s [] (skipS s 0) := ⟨skip_le s 0 (Nat.zero_le _), s.length + 1, by omega, rfl⟩
theorem mid_end {s : Bs} {ts : List Tok} {a : Nat} (h : Mid s ts a) (ha : s.length ≤ a) : lexS s = (ts ++ [⟨0, [], s.length⟩], none) := by
  obtain ⟨h1, n, h2, h3⟩ := h
  obtain ⟨m, rfl⟩ : ∃ m, n = m + 1 := ⟨n - 1, by omega⟩
  rw [h3, scan_end ha]
theorem mid_bad {s : Bs} {ts : List Tok} {a : Nat} (h : Mid s ts a) (ha : a < s.length) (h0 : (firstS (s.drop a)).2 = 0) : lexS s = (ts, some a) := by
  obtain ⟨h1, n, h2, h3⟩ := h
  obtain ⟨m, rfl⟩ : ∃ m, n = m + 1 := ⟨n - 1, by omega⟩
  rw [h3, scan_bad ha h0, List.append_nil]
theorem first_room {s : Bs} {a : Nat} (ha : a ≤ s.length) : a + (firstS (s.drop a)).2 ≤ s.length := by
  have := first_le (s.drop a)
  rw [List.length_drop] at this
  omega
theorem mid_tok {s : Bs} {ts : List Tok} {a : Nat} (h : Mid s ts a) (ha : a < s.length) (h0 : (firstS (s.drop a)).2 ≠ 0) : Mid s (ts ++ [⟨(firstS (s.drop a)).1, (s.drop a).take (firstS (s.drop a)).2, a⟩]) (skipS s (a + (firstS (s.drop a)).2)) := by
  obtain ⟨h1, n, h2, h3⟩ := h
  obtain ⟨m, rfl⟩ : ∃ m, n = m + 1 := ⟨n - 1, by omega⟩
  refine ⟨skip_le s _ (first_room h1), m, ?_, ?_⟩
  · have := skip_ge s (a + (firstS (s.drop a)).2)
    omega
  · rw [h3, scan_tok ha h0]
    simp
theorem mid_items {s : Bs} {ts : List Tok} {a : Nat} (h : Mid s ts a) : ∃ suf, ts.map (fun t => (t, 0)) ++ suf = itemsS s := by
  obtain ⟨h1, n, h2, h3⟩ := h
  unfold itemsS
  rw [h3]
  simp only [List.map_append, List.append_assoc]
  exact ⟨_, rfl⟩
theorem mid_len {s : Bs} {ts : List Tok} {a : Nat} (h : Mid s ts a) : ts.length ≤ s.length + 1 := by
  obtain ⟨h1, n, h2, h3⟩ := h
  have := scan_len s (s.length + 1) (skipS s 0)
  have h4 : (scan s (s.length + 1) (skipS s 0)).1 = ts ++ (scan s n a).1 := congrArg Prod.fst h3
  rw [h4, List.length_append] at this
  omega
theorem items_end {s : Bs} {ts : List Tok} {a : Nat} (h : Mid s ts a) (ha : s.length ≤ a) : itemsS s = ts.map (fun t => (t, 0)) ++ [(⟨0, [], s.length⟩, 0)] := by
  unfold itemsS
  rw [mid_end h ha]
  simp
theorem items_bad {s : Bs} {ts : List Tok} {a : Nat} (h : Mid s ts a) (ha : a < s.length) (h0 : (firstS (s.drop a)).2 = 0) : itemsS s = ts.map (fun t => (t, 0)) ++ [(⟨0, [], a⟩, 40)] := by
  unfold itemsS
  rw [mid_bad h ha h0]
end Tk
end Go.Proofs.YtnkondmpekbblaaDoor
