/- The document's reader of texts: a line, its words. -/
import Derived.Test.YtpejilhdhkmcjaaGreatDoorJaAl
import Derived.Test.YtpejilhdhkmcjaaGreatDoorJaaw
import Derived.Test.YtpejilhdhkmcjaaGreatDoorJaam
namespace Go.Proofs.YtpejilhdhkmcjaaGreatDoor
open Go.RowKit

/-- A text as the program's string. -/
def bsv (s : Ag.Bs) : ByteArray := ⟨s.toArray⟩
theorem bsv_size (s : Ag.Bs) : (bsv s).size = s.length := by simp [bsv, ByteArray.size]
theorem bsv_get (s : Ag.Bs) (i : Nat) (h : i < s.length) : (bsv s)[i]'(by rw [bsv_size]; exact h) = s[i] := rfl
theorem ix_bsv (s : Ag.Bs) (i : Nat) (h : i < s.length) (w : World) : (Instr.index 9 (.string (bsv s)) (.int .i64 (i : Int))).run Tryz.prog w = .ok (.int .u8 ((s[i]).toNat : Int)) w := by
 rw [index_str (bsv s) i (by rw [bsv_size]; exact h) w, bsv_get s i h]
theorem bsv_extract (s : Ag.Bs) (a b : Nat) : (bsv s).extract a b = bsv ((s.drop a).take (b - a)) := by
 unfold bsv
 apply ByteArray.ext
 simp [ByteArray.data_extract, List.extract_eq_take_drop]
theorem sl_bsv (s : Ag.Bs) (a : Nat) (h : a ≤ s.length) (w : World) : (Instr.slice 9 (.string (bsv s)) (some (.int .i64 (a : Int))) none none).run Tryz.prog w = .ok (.string (bsv (s.drop a))) w := by
 rw [run_slice_string_from_if w _ _ _ _ Tryz.underlying9, if_pos (by rw [bsv_size]; omega), Int.toNat_natCast, bsv_size, bsv_extract, List.take_of_length_le (by rw [List.length_drop]; omega)]
theorem slto_bsv (s : Ag.Bs) (n : Nat) (h : n ≤ s.length) (w : World) : (Instr.slice 9 (.string (bsv s)) none (some (.int .i64 (n : Int))) none).run Tryz.prog w = .ok (.string (bsv (s.take n))) w := by
 have e := bsv_extract s 0 n
 rw [List.drop_zero, Nat.sub_zero] at e
 rw [← e]
 have : (n : Int) ≤ ((bsv s).size : Int) := by rw [bsv_size]; omega
 go_simp
theorem sl2_bsv (s : Ag.Bs) (a b : Nat) (hab : a ≤ b) (h : b ≤ s.length) (w : World) : (Instr.slice 9 (.string (bsv s)) (some (.int .i64 (a : Int))) (some (.int .i64 (b : Int))) none).run Tryz.prog w = .ok (.string (bsv ((s.drop a).take (b - a)))) w := by
 rw [← bsv_extract]
 have h1 : (b : Int) ≤ ((bsv s).size : Int) := by rw [bsv_size]; omega
 have h2 : (a : Int) ≤ (b : Int) := by omega
 go_simp
/-- The taker's block: what is left, the mark, and the rest. -/
def TK (w : World) (R : Nat) (s : Ag.Bs) (bad : Bool) (cs : List Value) : Prop := Blk w R 80 (Value.string (bsv s) :: Value.bool bad :: cs).toArray
theorem TK.lt {w : World} {R : Nat} {s : Ag.Bs} {bad : Bool} {cs : List Value} (h : TK w R s bad cs) : R < w.heap.size := Blk.lt h
theorem TK.c0 {w : World} {R : Nat} {s : Ag.Bs} {bad : Bool} {cs : List Value} (h : TK w R s bad cs) : w.cell? ⟨R, 0, none⟩ = some (.string (bsv s)) := by
 have := Blk.cell h 0
 simpa using this
theorem TK.c1 {w : World} {R : Nat} {s : Ag.Bs} {bad : Bool} {cs : List Value} (h : TK w R s bad cs) : w.cell? ⟨R, 1, none⟩ = some (.bool bad) := by
 have := Blk.cell h 1
 simpa using this
theorem TK.cell {w : World} {R : Nat} {s : Ag.Bs} {bad : Bool} {cs : List Value} (h : TK w R s bad cs) (i : Nat) : w.cell? ⟨R, i + 2, none⟩ = cs[i]? := by
 have := Blk.cell h (i + 2)
 simpa using this
theorem TK.fz {w : World} {R : Nat} {s : Ag.Bs} {bad : Bool} {cs : List Value} (h : TK w R s bad cs) (i : Nat) : w.frozen? ⟨R, i, none⟩ = false := Blk.frozen h i
theorem TK.left {w : World} {R : Nat} {s : Ag.Bs} {bad : Bool} {cs : List Value} (h : TK w R s bad cs) (t : Ag.Bs) : TK (w.setCell ⟨R, 0, none⟩ (.string (bsv t))) R t bad cs := by
 have := Blk.put h 0 (.string (bsv t))
 simpa [TK] using this
theorem TK.mark {w : World} {R : Nat} {s : Ag.Bs} {bad : Bool} {cs : List Value} (h : TK w R s bad cs) (b : Bool) : TK (w.setCell ⟨R, 1, none⟩ (.bool b)) R s b cs := by
 have := Blk.put h 1 (.bool b)
 simpa [TK] using this
theorem TK.put {w : World} {R : Nat} {s : Ag.Bs} {bad : Bool} {cs : List Value} (h : TK w R s bad cs) (i : Nat) (u : Value) : TK (w.setCell ⟨R, i + 2, none⟩ u) R s bad (cs.set i u) := by
 have := Blk.put h (i + 2) u
 simpa [TK] using this
theorem TK.keep {w w' : World} {R : Nat} {s : Ag.Bs} {bad : Bool} {cs : List Value} (h : TK w R s bad cs) (hb : Below w.heap.size w w') : TK w' R s bad cs := Blk.below h hb (Blk.lt h)
theorem TK.grown {w w' : World} {R : Nat} {s : Ag.Bs} {bad : Bool} {cs : List Value} {row : Option Nat} (h : TK w R s bad cs) (hg : w.grownBy w' row) (hne : some R ≠ row) : TK w' R s bad cs := Blk.grown h hg hne
theorem line_no {s : Ag.Bs} (h : ∀ j (hj : j < s.length), s[j] ≠ 10) : Ag.lineS s = none := by
 cases hl : Ag.lineS s with
 | none => rfl
 | some q =>
  obtain ⟨l, r⟩ := q
  obtain ⟨e, _⟩ := Ag.line_some hl
  exfalso
  have hlt : l.length < s.length := by rw [e]; simp
  refine h l.length hlt ?_
  simp [e]
theorem line_at {s : Ag.Bs} {i : Nat} (hi : i < s.length) (h : ∀ j (hj : j < s.length), j < i → s[j] ≠ 10) (h10 : s[i] = 10) : Ag.lineS s = some (s.take i, s.drop (i + 1)) := by
 have e : s = s.take i ++ 10 :: s.drop (i + 1) := by
  rw [← h10, ← List.drop_eq_getElem_cons hi, List.take_append_drop]
 have hp : ∀ b ∈ s.take i, b ≠ 10 := by
  intro b hb
  obtain ⟨j, hj, rfl⟩ := List.getElem_of_mem hb
  rw [List.getElem_take]
  rw [List.length_take] at hj
  exact h j (by omega) (by omega)
 have := Ag.line_of hp (s.drop (i + 1))
 rw [← e] at this
 exact this
/-- A line is taken, or the mark is set. -/
def TLineP (R : Nat) (s : Ag.Bs) (bad : Bool) (cs : List Value) (w : World) (e : Ending) (w' : World) : Prop :=
 match Ag.lineS s with
 | some (l, r) => e = .returned (.string (bsv l)) ∧ TK w' R r bad cs ∧ RKeep R w w'
 | none => e = .returned (.string (bsv [])) ∧ TK w' R s true cs ∧ RKeep R w w'
set_option maxRecDepth 10000 in
set_option maxHeartbeats 4000000 in
theorem tline_any (R : Nat) (s : Ag.Bs) (bad : Bool) (cs : List Value) (w : World) (h : TK w R s bad cs) (hs : s.length ≤ 100000) :
  Calls Tryz.prog 69 #[.pointer (some ⟨R, 0, none⟩)] w (TLineP R s bad cs w) := by
 have k0 := h.c0
 have k1 := h.c1
 have f0 := h.fz 0
 have f1 := h.fz 1
 have hz := bsv_size s
 go_enter Tryz.func69, Tryz.ntmps69
 go_wp2
 go_loopw [3] (fun i wr => ∃ k : Nat, k ≤ s.length ∧ i = .int .i64 (k : Int) ∧ (∀ j (hj : j < s.length), j < k → s[j] ≠ 10) ∧ wr = w) (fun i _ => s.length - (intOf i).toNat)
 case atStart => exact ⟨0, Nat.zero_le _, rfl, fun _ _ h => absurd h (Nat.not_lt_zero _), rfl⟩
 obtain ⟨k, hk, rfl, hj, rfl⟩ := hrel
 have HJ := Lib.hid hj
 clear hj
 by_cases hlt : k < s.length
 ·
  have dl : decide ((k : Int) < ((bsv s).size : Int)) = true := decide_eq_true (by omega)
  have hix := ix_bsv s k hlt
  by_cases h10 : s[k] = 10
  ·
   have he : (((s[k]).toNat : Int) == 10) = true := by rw [h10]; rfl
   have HL := Lib.hid (line_at hlt HJ.out h10)
   have hs1 := slto_bsv s k (by omega)
   have hs2 := sl_bsv s (k + 1) (by omega)
   have hE : (bsv s).extract (k + 1) s.length = bsv (s.drop (k + 1)) := by rw [bsv_extract, List.take_of_length_le (by rw [List.length_drop]; omega)]
   have HE := Lib.hid hE
   have hT := h.left (s.drop (k + 1))
   have hK := (RKeep.refl R wr).set (p := ⟨R, 0, none⟩) rfl (.string (bsv (s.drop (k + 1))))
   generalize s[k] = b at *
   clear h10 HJ hE
   go_wp2
   go_ret
   unfold TLineP
   rw [HL.out]
   refine ⟨rfl, ?_, ?_⟩ <;> rw [HE.out]
   ·
    exact hT
   exact hK
  have he : (((s[k]).toNat : Int) == 10) = false := by
   have : (s[k]).toNat ≠ 10 := fun e => h10 (UInt8.toNat_inj.1 (by rw [e]; rfl))
   simp
   omega
  have HN := Lib.hid h10
  have hb := bsv_size s
  go_wp2
  go_roundw
  case rel =>
   refine ⟨k + 1, by omega, by go_num, fun j hj h => ?_, trivial⟩
   by_cases hjk : j = k
   ·
    subst hjk
    exact HN.out
   exact HJ.out j hj (by omega)
  case measure => simp [intOf]; omega
 have dl : decide ((k : Int) < ((bsv s).size : Int)) = false := decide_eq_false (by omega)
 have HL := Lib.hid (line_no fun j hj => HJ.out j hj (by omega))
 have hT := h.mark true
 have hK := (RKeep.refl R wr).set (p := ⟨R, 1, none⟩) rfl (.bool true)
 clear HJ
 go_wp2
 go_ret
 unfold TLineP
 rw [HL.out]
 exact ⟨rfl, hT, hK⟩
end Go.Proofs.YtpejilhdhkmcjaaGreatDoor
