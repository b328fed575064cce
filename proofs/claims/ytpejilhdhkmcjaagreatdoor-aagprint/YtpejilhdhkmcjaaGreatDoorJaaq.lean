/- The reader of texts: what ends a reading; a byte. -/
import Derived.Test.YtpejilhdhkmcjaaGreatDoorJaAl
import Derived.Test.YtpejilhdhkmcjaaGreatDoorJaad
import Derived.Test.YtpejilhdhkmcjaaGreatDoorJaal
import Derived.Test.YtpejilhdhkmcjaaGreatDoorJaap
import Derived.Laws.IdiomStrings
import Derived.Lib.BufferRead
namespace Go.Proofs.YtpejilhdhkmcjaaGreatDoor
open Go.RowKit

/-- The panic by which a reading ends. -/
abbrev faultE (k : Int) : Ending := .panicked [{ v := .iface 97 (.int .i64 k), recovered := false }]
set_option maxHeartbeats 1000000 in
theorem need_ok (k : Int) (w : World) : Calls Tryz.prog 62 #[.bool true, .int .i64 k] w fun e w' => e = .returned (.tuple #[]) ∧ w = w' := by
 have hnot : ∀ (x : Bool) (w : World), (Op.unary .not (.bool x)).run Tryz.prog w = .ok (.bool (!x)) w := fun _ _ => rfl
 go_enter Tryz.func62, Tryz.ntmps62
 go_wp2
 go_end0
 exact ⟨rfl, rfl⟩
set_option maxHeartbeats 1000000 in
theorem need_bad (k : Int) (w : World) : Calls Tryz.prog 62 #[.bool false, .int .i64 k] w fun e w' => e = faultE k ∧ w = w' := by
 have hnot : ∀ (x : Bool) (w : World), (Op.unary .not (.bool x)).run Tryz.prog w = .ok (.bool (!x)) w := fun _ _ => rfl
 go_enter Tryz.func62, Tryz.ntmps62
 go_wp2
 exact ⟨rfl, rfl, rfl⟩
/-- A reader in memory: what is left, and what it means if the next thing is wrong. -/
def RB (w : World) (R : Nat) (s : ByteArray) (k : Int) : Prop := Blk w R 72 #[.string s, .int .i64 k]
set_option maxHeartbeats 1000000 in
theorem Need_ok (R : Nat) (s : ByteArray) (k : Int) (w : World) (h : RB w R s k) : Calls Tryz.prog 88 #[.pointer (some ⟨R, 0, none⟩), .bool true] w fun e w' => e = .returned (.tuple #[]) ∧ w = w' := by
 have c1 := Blk.cell h 1
 simp only [zD, zE, zF] at c1
 go_enter Tryz.func88, Tryz.ntmps88
 go_wp2_with fail
 refine (need_ok k w).mono ?_
 rintro e w1 ⟨rfl, rfl⟩
 go_wp2
 go_end0
 exact ⟨rfl, rfl⟩
set_option maxHeartbeats 1000000 in
theorem Need_bad (R : Nat) (s : ByteArray) (k : Int) (w : World) (h : RB w R s k) : Calls Tryz.prog 88 #[.pointer (some ⟨R, 0, none⟩), .bool false] w fun e w' => e = faultE k ∧ w = w' := by
 have c1 := Blk.cell h 1
 simp only [zD, zE, zF] at c1
 go_enter Tryz.func88, Tryz.ntmps88
 go_wp2_with fail
 refine (need_bad k w).mono ?_
 rintro e w1 ⟨rfl, rfl⟩
 exact ⟨rfl, rfl, rfl⟩
set_option maxRecDepth 10000 in
set_option maxHeartbeats 2000000 in
theorem Byte_ok (R : Nat) (s : ByteArray) (k : Int) (w : World) (h : RB w R s k) (hs : 0 < s.size) (hm : s.size ≤ maxLen) : Calls Tryz.prog 106 #[.pointer (some ⟨R, 0, none⟩)] w fun e w' => e = .returned (.int .u8 ((s[0]'hs).toNat : Int)) ∧ w' = w.setCell ⟨R, 0, none⟩ (.string (s.extract 1 s.size)) := by
 have c0 := Blk.cell h 0
 have f0 := Blk.frozen h 0
 simp only [zD, zE] at c0
 unfold maxLen at hm
 have d1 : decide ((0 : Int) < (s.size : Int)) = true := decide_eq_true (by omega)
 go_enter Tryz.func106, Tryz.ntmps106
 go_wp2_with fail
 refine (Need_ok R s k w h).mono ?_
 rintro e w1 ⟨rfl, rfl⟩
 go_wp2
 go_ret
 exact ⟨rfl, rfl⟩
set_option maxHeartbeats 2000000 in
theorem Byte_end (R : Nat) (s : ByteArray) (k : Int) (w : World) (h : RB w R s k) (hs : s.size = 0) : Calls Tryz.prog 106 #[.pointer (some ⟨R, 0, none⟩)] w fun e w' => e = faultE k ∧ w = w' := by
 have c0 := Blk.cell h 0
 simp only [zD, zE] at c0
 go_enter Tryz.func106, Tryz.ntmps106
 go_wp2_with fail
 refine (Need_bad R s k w h).mono ?_
 rintro e w1 ⟨rfl, rfl⟩
 exact ⟨rfl, rfl, rfl⟩
end Go.Proofs.YtpejilhdhkmcjaaGreatDoor
/- The reader of texts: a line. -/
namespace Go.Proofs.YtpejilhdhkmcjaaGreatDoor
open Go.RowKit

/-- Every block but the reader's stays as it was. -/
structure RKeep (R : Nat) (w w' : World) : Prop where
 os : w'.os = w.os
 tape : w'.tape = w.tape
 output : w'.output = w.output
 size : w.heap.size ≤ w'.heap.size
 blk : ∀ b, b < w.heap.size → b ≠ R → w'.heap[b]? = w.heap[b]?
theorem RKeep.refl (R : Nat) (w : World) : RKeep R w w := ⟨rfl, rfl, rfl, Nat.le_refl _, fun _ _ _ => rfl⟩
theorem RKeep.trans {R : Nat} {a b c : World} (h : RKeep R a b) (k : RKeep R b c) : RKeep R a c :=
 ⟨k.os.trans h.os, k.tape.trans h.tape, k.output.trans h.output, Nat.le_trans h.size k.size, fun i hi hn => (k.blk i (Nat.lt_of_lt_of_le hi h.size) hn).trans (h.blk i hi hn)⟩
theorem RKeep.below {R : Nat} {a b c : World} (h : RKeep R a b) (k : Below b.heap.size b c) : RKeep R a c :=
 h.trans ⟨k.os, k.tape, k.output, k.size, fun i hi _ => k.block i hi⟩
theorem RKeep.grown {R : Nat} {a b c : World} {row : Option Nat} (h : RKeep R a b) (k : b.grownBy c row) (hr : ∀ g, row = some g → a.heap.size ≤ g) : RKeep R a c :=
 ⟨k.os.trans h.os, k.tape.trans h.tape, k.output.trans h.output, Nat.le_trans h.size k.size, fun i hi hn => (k.block i (Nat.lt_of_lt_of_le hi h.size) (fun e => by have := hr i e.symm; omega)).trans (h.blk i hi hn)⟩
theorem RKeep.set {R : Nat} {a b : World} (h : RKeep R a b) {p : Addr} (hp : p.block = R) (u : Value) : RKeep R a (b.setCell p u) :=
 ⟨h.os, h.tape, h.output, by simpa using h.size, fun i hi hn => (Below.heap_setCell b p u i (fun e => hn (by omega))).trans (h.blk i hi hn)⟩
theorem RKeep.blkOf {R g : Nat} {a b : World} {t : TypeId} {cs : Array Value} (h : RKeep R a b) (k : Blk a g t cs) (hn : g ≠ R) : Blk b g t cs := k.keep (h.blk g k.lt hn)
theorem RB.grown {w w' : World} {R : Nat} {s : ByteArray} {k : Int} {row : Option Nat} (h : RB w R s k) (hg : w.grownBy w' row) (hne : some R ≠ row) : RB w' R s k := Blk.grown h hg hne
theorem RB.put {w : World} {R : Nat} {s : ByteArray} {k : Int} (h : RB w R s k) (t : ByteArray) : RB (w.setCell ⟨R, 0, none⟩ (.string t)) R t k := Blk.put h 0 (.string t)
theorem app_u8 (w : World) (base : Nat) (ty : TypeId) (v : Value) (n : Nat) (xs : List Value) (hown : w.ownsRow base 5 1 v n xs) (b c : Nat) (x : Int) (hbk : Blk w b 5 #[.int .u8 x]) (hn : n ≤ 100000) (hbase : base ≤ w.heap.size) :
  ∃ v' w', (Builtin.append_ #[37, 37] ty #[v, .slice (some ⟨b, 0, none⟩) 1 c]).run Tryz.prog w = .ok v' w' ∧ w'.ownsRow base 5 1 v' (n + 1) (xs ++ [.int .u8 x]) ∧ w.grownBy w' v.ownBlock ∧ (v'.ownBlock = v.ownBlock ∨ v'.ownBlock = some w.heap.size) :=
 app_own w base 37 ty 5 Tryz.t5 (.int .u8 0) 1 1 Tryz.underlying37 (by kernel_rfl) (by kernel_rfl) (by kernel_rfl) (by kernel_rfl) (by omega) (by kernel_rfl) (by omega) v n xs hown b c [.int .u8 x] hbk rfl (fun u hu => by simp at hu; subst hu; rfl) hn hbase
theorem row_string {w : World} {base : Nat} {v : Value} {l : Ag.Bs} (h : w.ownsRow base 5 1 v l.length (Lib.byteCells l)) : (convert 37 9 v).run Tryz.prog w = .ok (.string ⟨l.toArray⟩) w := by
 rcases h.2 with ⟨rfl, h0⟩ | ⟨g, cap, cur, rfl, _, hh, hn, _, hs, ht⟩
 ·
  have : l = [] := List.length_eq_zero_iff.1 h0
  subst this
  exact Lib.run_convert_nil_bytes w _ _ _ 0 Tryz.underlying37 Tryz.underlying5 Tryz.underlying9
 refine run_convert_bytes_back w _ _ _ ⟨g, 0, none⟩ cap l Tryz.underlying37 Tryz.underlying5 Tryz.underlying9 ?_
 exact Lib.bytes_of_row hh (by simpa using ht)
end Go.Proofs.YtpejilhdhkmcjaaGreatDoor
