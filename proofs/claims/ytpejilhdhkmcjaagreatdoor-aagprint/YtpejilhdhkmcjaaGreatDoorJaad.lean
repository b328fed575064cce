/- hash and slot: the index's search. -/
import Derived.Test.YtpejilhdhkmcjaaGreatDoorJaAl
import Derived.Test.YtpejilhdhkmcjaaGreatDoorJaab
import Derived.Test.YtpejilhdhkmcjaaGreatDoorJaac
import Derived.ChangeKeysEq
namespace Go.Proofs.YtpejilhdhkmcjaaGreatDoor
open Go.RowKit

/-- The hash of a gate. -/
def hashF (g : Int × Int) : Nat := (bits .xor .u32 (g.1 % 4294967296 * 4096 % 4294967296) (g.2 % 4294967296) * 2654435769 % 4294967296 / 65536).toNat
theorem hashF_lt (g : Int × Int) : hashF g < 65536 := by unfold hashF; omega
theorem hashF_int (x y : Int) : (bits .xor .u32 (x % 4294967296 * 4096 % 4294967296) (y % 4294967296) * 2654435769 % 4294967296 / 65536) = (hashF (x, y) : Int) := by
 unfold hashF; simp only; omega

set_option maxHeartbeats 1000000 in
theorem hash_any (x y : Int) (w : World) :
  Calls Tryz.prog 142 #[.agg #[.int .i64 x, .int .i64 y]] w fun e w' => e = .returned (.int .i64 (hashF (x, y))) ∧ Below w.heap.size w w' := by
 go_enter Tryz.func142, Tryz.ntmps142
 go_wp2
 go_ret
 exact ⟨ret_int (hashF_int x y), (Below.refl _ _).alloc (Nat.le_refl _) _⟩

/-- A row of numbers in memory. -/
def Row (w : World) (sb N : Nat) (S : Nat → Nat) : Prop := ∀ i, i < N → w.cell? ⟨sb, i, none⟩ = some (.int .i64 (S i : Int))
theorem Row.below {w w' : World} {B sb N : Nat} {S : Nat → Nat} (h : Row w sb N S) (hb : Below B w w') (hs : sb < B) : Row w' sb N S :=
 fun i hi => (hb.cell (p := ⟨sb, i, none⟩) hs).trans (h i hi)

theorem and_last (h m : Nat) (hh : h < 9223372036854775808) (hm : 2 ^ m < 9223372036854775808) : bits .and .i64 (h : Int) ((2 ^ m : Nat) - 1 : Int) = ((h % 2 ^ m : Nat) : Int) := by
 have h1 : 1 ≤ 2 ^ m := Nat.one_le_two_pow
 have e : ((2 ^ m : Nat) - 1 : Int) = ((2 ^ m - 1 : Nat) : Int) := by omega
 rw [e, Gm.i64_and_nat h (2 ^ m - 1) hh (by omega), Nat.and_two_pow_sub_one_eq_mod]

theorem eq_arr2 (a b x y : Int) (w : World) : (Op.equalIn 10000 57 (.agg #[.int .i64 a, .int .i64 b]) (.agg #[.int .i64 x, .int .i64 y])).run Tryz.prog w = .ok (a == x && b == y) w := by
 have hi : Tryz.prog.info? 3 = some (Tryz.t3) := by kernel_rfl
 rw [show 10000 = 9999 + 1 from rfl, run_equalIn_array w 9999 _ _ Tryz.underlying57 hi]
 have hc : Tryz.prog.cellsOf 3 = 1 := by kernel_rfl
 rw [hc]
 simp [Op.eqItems, List.range, List.range.loop]
 go_simp
 by_cases h1 : a = x <;> by_cases h2 : b = y <;> simp [h1, h2]
theorem eqGuard2 : Tryz.prog.eqGuardType Tryz.prog.depth 57 = false := by kernel_rfl
theorem neq_arr2 (a b x y : Int) (w : World) : (binOp .neq 57 (.agg #[.int .i64 a, .int .i64 b]) (.agg #[.int .i64 x, .int .i64 y])).run Tryz.prog w = .ok (.bool (!(a == x && b == y))) w := by
 rw [run_neq_struct, eq_arr2]
 rfl
theorem eql_arr2 (a b x y : Int) (w : World) : (binOp .eql 57 (.agg #[.int .i64 a, .int .i64 b]) (.agg #[.int .i64 x, .int .i64 y])).run Tryz.prog w = .ok (.bool (a == x && b == y)) w := by
 rw [run_eql_struct, eq_arr2]
 rfl
theorem ix1 (sb N r : Nat) (_hm : N ≤ 1000000) (hr : r < N) (w : World) : (Instr.indexAt 26 (.slice (some ⟨sb, 0, none⟩) N N) (.int .i64 (r : Int))).run Tryz.prog w = .ok (.pointer (some ⟨sb, r, none⟩)) w := by go_simp
theorem ix2 (sb off N c r : Nat) (_hm : N ≤ 1000000) (hr : r < N) (w : World) : (Instr.indexAt 25 (.slice (some ⟨sb, off, none⟩) N c) (.int .i64 (r : Int))).run Tryz.prog w = .ok (.pointer (some ⟨sb, off + r * 2, none⟩)) w := by go_simp

set_option maxHeartbeats 2000000 in
theorem slot_any (ib sb m : Nat) (A : Option Addr) (c : Nat) (gs : List (Int × Int)) (S : Nat → Nat) (x y : Int) (w : World)
  (hib : ib < w.heap.size) (hsb : sb < w.heap.size) (hm : 2 ^ m ≤ 1000000) (hl : gs.length ≤ 1000000)
  (hi0 : w.cell? ⟨ib, 0, none⟩ = some (.slice A gs.length c)) (hi4 : w.cell? ⟨ib, 4, none⟩ = some (.slice (some ⟨sb, 0, none⟩) (2 ^ m) (2 ^ m)))
  (B : Nat) (hg : Gr w B A gs) (hB : B ≤ w.heap.size) (hS : Row w sb (2 ^ m) S) (hle : ∀ i, i < 2 ^ m → S i ≤ gs.length) (hc : Gm.cnt S (2 ^ m) < 2 ^ m) :
  Calls Tryz.prog 122 #[.pointer (some ⟨ib, 0, none⟩), .agg #[.int .i64 x, .int .i64 y]] w
   fun e w' => ∃ r : Nat, e = .returned (.int .i64 r) ∧ r < 2 ^ m ∧ Gm.Stops gs (2 ^ m) S (x, y) (hashF (x, y)) r ∧ Below w.heap.size w w' := by
 obtain ⟨j0, hj0, hz0, hbef⟩ := Gm.first_free S (2 ^ m) (hashF (x, y)) hc
 have hh := hashF_lt (x, y)
 have HH := Lib.hid (hash_any x y)
 generalize hashF (x, y) = h at *
 have hand := and_last h m (by omega) (by omega)
 generalize hN : 2 ^ m = N at *
 have HN := Lib.hid hN
 have Hand := Lib.hid hand
 have HZ := Lib.hid hz0
 have HB := Lib.hid hbef
 have HLE := Lib.hid hle
 clear hN hand hz0 hbef hle
 go_enter Tryz.func122, Tryz.ntmps122
 go_wp2_with (go_at_call 142; refine (HH.out _).mono ?_; rintro e w' ⟨rfl, hb⟩)
 obtain ⟨hcb, _⟩ := bcell hb
 have hbw : Below w.heap.size w w' := ((Below.refl _ _).alloc (Nat.le_refl _) _).trans (hb.mono (by simp))
 have hsz : w.heap.size < w'.heap.size := by have := hb.size; simp at this; omega
 have k0 : w'.cell? ⟨w.heap.size, 0, none⟩ = some (.int .i64 x) := by rw [hcb _ _ (by simp)]; simp
 have k1 : w'.cell? ⟨w.heap.size, 1, none⟩ = some (.int .i64 y) := by rw [hcb _ _ (by simp)]; simp
 have e0 : w'.cell? ⟨ib, 0, none⟩ = some (.slice A gs.length c) := (hbw.cell (p := ⟨ib, 0, none⟩) hib).trans hi0
 have e4 : w'.cell? ⟨ib, 4, none⟩ = some (.slice (some ⟨sb, 0, none⟩) N N) := (hbw.cell (p := ⟨ib, 4, none⟩) hib).trans hi4
 have hg' := hg.below hbw hB
 have hS' := hS.below hbw hsb
 clear hcb hb hi0 hi4 hg hS hc
 go_loopg [6] j0 (fun gk p wr => ∃ j : Nat, p = .int .i64 ((h + j) % N : Nat) ∧ j + gk = j0 ∧ Gm.Path gs N S (x, y) (h) j ∧ Below w'.heap.size w' wr)
 case atStart => exact ⟨0, by rw [Hand.out, Nat.add_zero], by omega, fun i hi => by omega, Below.refl _ _⟩
 obtain ⟨j, rfl, hj, hp, hbr⟩ := hrel
 have hS2 := hS'.below hbr (Nat.lt_of_lt_of_le hsb hbw.size)
 have hg2 := hg'.below hbr (Nat.le_trans hB hbw.size)
 have k0' := (hbr.cell (p := ⟨w.heap.size, 0, none⟩) hsz).trans k0
 have k1' := (hbr.cell (p := ⟨w.heap.size, 1, none⟩) hsz).trans k1
 have e0' := (hbr.cell (p := ⟨ib, 0, none⟩) (Nat.lt_of_lt_of_le hib hbw.size)).trans e0
 have e4' := (hbr.cell (p := ⟨ib, 4, none⟩) (Nat.lt_of_lt_of_le hib hbw.size)).trans e4
 clear k0 k1 e0 e4
 have hr : (h + j) % N < N := Nat.mod_lt _ (by omega)
 have hent := hS2 _ hr
 have hle := HLE.out _ hr
 have HP := Lib.hid hp
 have hnext : bits .and .i64 (((h + j) % N : Nat) + 1 : Int) ((N : Int) - 1) = ((h + (j + 1)) % N : Nat) := by
  have := and_last ((h + j) % N + 1) m (by omega) (by have := HN.out; omega)
  rw [HN.out] at this
  rw [show ((((h + j) % N : Nat) : Int) + 1) = (((h + j) % N + 1 : Nat) : Int) by omega, this, Nat.mod_add_mod, Nat.add_assoc]
 have HX := Lib.hid hnext
 clear hp hnext
 by_cases hz : S ((h + j) % N) = 0
 ·
  have hst := Lib.hid (show Gm.Stops gs N S (x, y) (h) ((h + j) % N) from ⟨j, by omega, rfl, HP.out, Or.inl hz⟩)
  rw [hz] at hent
  generalize (h + j) % N = r at *
  have hix := ix1 sb N r hm hr
  have HR := Lib.hid hr
  clear hz hle hr hm
  have hd : ((0 : Int) != 0) = false := by simp
  go_wp2
  go_quiet (fail)
  go_wp2
  go_ret
  exact ⟨r, rfl, HR.out, hst.out, by exact below_drewN (hbw.trans (hbr.mono hbw.size)) _⟩
 obtain ⟨e, he⟩ : ∃ e, S ((h + j) % N) = e + 1 := ⟨S ((h + j) % N) - 1, by omega⟩
 rw [he] at hent hle
 have hent2 : wr.cell? ⟨sb, (h + j) % N, none⟩ = some (.int .i64 ((e : Int) + 1)) := by rw [hent]; simp
 clear hent
 obtain ⟨b, off, hA, hbw2, g1, g2⟩ := hg2 e (by omega)
 subst hA
 have hga : Gm.gAt gs (S ((h + j) % N)) = gs[e] := by rw [he]; simp [Gm.gAt, List.getElem?_eq_getElem (show e < gs.length by omega)]
 have HGA := Lib.hid hga
 clear hga
 generalize gs[e] = g at *
 obtain ⟨a, b'⟩ := g
 simp only at g1 g2
 have hne := neq_arr2 a b' x y
 have hgu := eqGuard2
 have hix2 := ix2 b off gs.length c e hl (by omega)
 have hd : ((e : Int) + 1 != 0) = true := by simp; omega
 by_cases hgg : (a, b') = (x, y)
 ·
  have hst := Lib.hid (show Gm.Stops gs N S (x, y) h ((h + j) % N) from ⟨j, by omega, rfl, HP.out, Or.inr (HGA.out.trans hgg)⟩)
  clear HGA
  generalize (h + j) % N = r at *
  have hix := ix1 sb N r hm hr
  have HR := Lib.hid hr
  clear hz he hr hm
  have hb : (a == x && b' == y) = true := by simp only [Prod.mk.injEq] at hgg; simp [hgg.1, hgg.2]
  rw [hb] at hne
  clear hb hgg
  go_wp2
  go_quiet (fail)
  go_wp2
  go_ret
  exact ⟨r, rfl, HR.out, hst.out, by exact below_drewN (hbw.trans (hbr.mono hbw.size)) _⟩
 have hst := Lib.hid (show Gm.Path gs N S (x, y) h (j + 1) from fun i hi => by
  by_cases e' : i < j
  ·
   exact HP.out i e'
  have : i = j := by omega
  subst this
  exact ⟨hz, by rw [HGA.out]; exact hgg⟩)
 have hjj := Lib.hid (show j + 1 ≤ j0 from Nat.lt_of_le_of_ne (by omega) (fun e' => hz (by rw [e']; exact HZ.out)))
 clear HGA
 generalize (h + j) % N = r at *
 have hix := ix1 sb N r hm hr
 have HR := Lib.hid hr
 have HJ := Lib.hid hj
 have hbe : (a == x && b' == y) = false := by
  simp only [Prod.mk.injEq] at hgg
  by_cases ha : a = x
  ·
   have : ¬ b' = y := fun hb => hgg ⟨ha, hb⟩
   simp [this]
  simp [ha]
 rw [hbe] at hne
 clear hbe hgg hz he hr hj
 have hr : r < N := HR.out
 go_wp2
 clear hr
 go_quiet (fail)
 have hr : r < N := HR.out
 go_wp2
 go_roundg (gk - 1)
 case measure => have := hjj.out; have := HJ.out; omega
 case rel => exact ⟨j + 1, by rw [HX.out], by have := hjj.out; have := HJ.out; omega, hst.out, below_drewN hbr _⟩
end Go.Proofs.YtpejilhdhkmcjaaGreatDoor
/- build: the index is made. -/
namespace Go.Proofs.YtpejilhdhkmcjaaGreatDoor
open Go.RowKit

/-- Block g is just the cells cs of type t, none frozen. -/
def Blk (w : World) (g : Nat) (t : TypeId) (cs : Array Value) : Prop := w.heap[g]? = some (.cells cs t (0, 0))
section
variable {w w' : World} {g : Nat} {t : TypeId} {cs : Array Value}
theorem Blk.lt (h : Blk w g t cs) : g < w.heap.size := by
 apply Classical.byContradiction
 intro hn
 unfold Blk at h
 rw [Array.getElem?_eq_none (by omega)] at h
 cases h
theorem Blk.cell (h : Blk w g t cs) (i : Nat) : w.cell? ⟨g, i, none⟩ = cs[i]? := cell_of_row w g i cs t (0, 0) h
theorem Blk.frozen (h : Blk w g t cs) (i : Nat) : w.frozen? ⟨g, i, none⟩ = false := by
 unfold Blk at h
 simp [World.frozen?, h]
theorem Blk.new (w : World) (t : TypeId) (cs : Array Value) : Blk (w.alloc (.cells cs t)) w.heap.size t cs := heap_alloc_new w _
theorem Blk.keep (h : Blk w g t cs) (hk : w'.heap[g]? = w.heap[g]?) : Blk w' g t cs := hk.trans h
theorem Blk.drewN (h : Blk w g t cs) (n : Nat) : Blk (w.drewN n) g t cs := h
theorem Blk.alloc (h : Blk w g t cs) (o : Obj) : Blk (w.alloc o) g t cs := h.keep (Below.heap_alloc w o g h.lt)
theorem Blk.put (h : Blk w g t cs) (i : Nat) (u : Value) : Blk (w.setCell ⟨g, i, none⟩ u) g t (cs.setIfInBounds i u) := by
 unfold Blk at h ⊢
 simp [World.setCell, Array.getElem?_modify, h]
theorem Blk.far (h : Blk w g t cs) {p : Addr} (hp : g ≠ p.block) (u : Value) : Blk (w.setCell p u) g t cs := h.keep (Below.heap_setCell w p u g hp)
theorem Blk.below {B : Nat} (h : Blk w g t cs) (hb : Below B w w') (hg : g < B) : Blk w' g t cs := h.keep (hb.block g hg)
theorem Blk.grown {row : Option Nat} (h : Blk w g t cs) (hb : w.grownBy w' row) (hg : some g ≠ row) : Blk w' g t cs := h.keep (hb.block g h.lt hg)
end

def zeros (N : Nat) : Array Value := Array.replicate N (.int .i64 0)
theorem made_zeros (N : Nat) : madeCells (Value.int .i64 0).cells N = zeros N := by
 unfold madeCells zeros
 apply Array.ext
 ·
  simp
 intro i h1 h2
 simp [Value.cells, Nat.mod_one]
theorem zeros_get (N i : Nat) (h : i < N) : (zeros N)[i]? = some (.int .i64 ((0 : Nat) : Int)) := by simp [zeros, h]
theorem make_ints (N : Nat) (hN : N ≤ 1000000) (w : World) : (Instr.makeSlice 26 (.int .i64 (N : Int)) (.int .i64 (N : Int))).run Tryz.prog w = .ok (.slice (some ⟨w.heap.size, 0, none⟩) N N) (w.alloc (.cells (zeros N) 3)) := by
 have hb : (Tryz.t3).bytes = 8 := by kernel_rfl
 have hs : (Tryz.t3).size = 1 := by kernel_rfl
 have := run_make (P := Tryz.prog) w 26 3 Tryz.t3 (.int .i64 0) Tryz.underlying26 (by kernel_rfl) (by kernel_rfl) .i64 .i64 N N (by omega) (by omega) (by rw [hb]; omega) (by omega)
 rw [hs, Nat.mul_one, Int.toNat_natCast, made_zeros] at this
 exact this
theorem shl_two (b : Nat) (hb : b ≤ 11) : wrap64 (2 * 2 ^ min b 64) = ((2 ^ (b + 1) : Nat) : Int) := by
 rw [Nat.min_eq_left (by omega)]
 have h1 : 2 ^ b ≤ 2 ^ 11 := Nat.pow_le_pow_right (by omega) hb
 have h2 : ((2 ^ b : Nat) : Int) = 2 ^ b := by simp
 rw [Nat.pow_succ]
 unfold wrap64
 omega

/-- The index at ib is built over the gates gs. -/
def Built (w' : World) (ib lo : Nat) (A : Option Addr) (c : Nat) (gs : List (Int × Int)) (d st se : Value) : Prop :=
 ∃ (sb m : Nat) (S : Nat → Nat), Blk w' ib 125 #[.slice A gs.length c, d, st, se, .slice (some ⟨sb, 0, none⟩) (2 ^ m) (2 ^ m), .bool (!Gm.nodB gs)] ∧
  lo ≤ sb ∧ sb < w'.heap.size ∧ Row w' sb (2 ^ m) S ∧ Gm.Tab gs hashF (2 ^ m) gs.length S ∧ 2 ^ m ≤ 1000000 ∧ gs.length < 2 ^ m
/-- What holds when k gates have been put in. -/
def BInv (w wr : World) (ib : Nat) (A : Option Addr) (c : Nat) (gs : List (Int × Int)) (d st se : Value) (N k : Nat) (S : Nat → Nat) : Prop :=
 Blk wr ib 125 #[.slice A gs.length c, d, st, se, .slice (some ⟨w.heap.size, 0, none⟩) N N, .bool (!Gm.nodB (gs.take k))] ∧
 (∃ cs, Blk wr w.heap.size 3 cs ∧ ∀ i, i < N → cs[i]? = some (.int .i64 (S i : Int))) ∧ Gm.Tab gs hashF N k S ∧ w.grownBy wr (some ib)
theorem grown_alloc {a w : World} {row : Option Nat} (h : a.grownBy w row) (o : Obj) : a.grownBy (w.alloc o) row :=
 ⟨h.os, h.tape, h.output, Nat.le_trans h.size (by simp), fun i hi hne => (Below.heap_alloc w o i (Nat.lt_of_lt_of_le hi h.size)).trans (h.block i hi hne)⟩
theorem grown_set {a w : World} {g : Nat} (h : a.grownBy w (some g)) {p : Addr} (hp : p.block = g ∨ a.heap.size ≤ p.block) (u : Value) : a.grownBy (w.setCell p u) (some g) :=
 ⟨h.os, h.tape, h.output, by simpa [World.setCell] using h.size, fun i hi hne => (Below.heap_setCell w p u i (by
  rintro rfl
  rcases hp with hp | hp
  ·
   exact hne (by rw [hp])
  omega)).trans (h.block i hi hne)⟩
theorem grown_below {a w w' : World} {row : Option Nat} (h : a.grownBy w row) (hb : Below w.heap.size w w') : a.grownBy w' row :=
 ⟨hb.os.trans h.os, hb.tape.trans h.tape, hb.output.trans h.output, Nat.le_trans h.size hb.size, fun i hi hn => (hb.block i (Nat.lt_of_lt_of_le hi h.size)).trans (h.block i hi hn)⟩
theorem BInv.start {w : World} {ib : Nat} {A : Option Addr} {c : Nat} {gs : List (Int × Int)} {d st se sv : Value} {N : Nat}
  (hix : Blk w ib 125 #[.slice A gs.length c, d, st, se, sv, .bool false]) :
  BInv w ((w.setCell ⟨ib, 4, none⟩ (.slice (some ⟨w.heap.size, 0, none⟩) N N)).alloc (.cells (zeros N) 3)) ib A c gs d st se N 0 (fun _ => 0) := by
 refine ⟨?_, ⟨zeros N, ?_, fun i hi => zeros_get N i hi⟩, Gm.Tab.zero, ?_⟩
 ·
  exact (hix.put 4 _).alloc _
 ·
  have := Blk.new (w.setCell ⟨ib, 4, none⟩ (.slice (some ⟨w.heap.size, 0, none⟩) N N)) 3 (zeros N)
  simpa using this
 exact grown_alloc (grown_set (World.grownBy.refl w _) (Or.inl rfl) _) _
theorem BInv.dup {w wr w2 : World} {ib : Nat} {A : Option Addr} {c : Nat} {gs : List (Int × Int)} {d st se : Value} {N k r : Nat} {S : Nat → Nat} {g : Int × Int} (h : BInv w wr ib A c gs d st se N k S) (hib : ib < w.heap.size) (hk : k < gs.length) (hg : gs[k] = g)
  (hb : Below wr.heap.size wr w2) (hr : r < N) (hs : Gm.Stops gs N S g (hashF g) r) (h0 : S r ≠ 0) : BInv w (w2.setCell ⟨ib, 5, none⟩ (.bool true)) ib A c gs d st se N (k + 1) S := by
 obtain ⟨h1, ⟨cs, h2, h3⟩, h4, h5⟩ := h
 have hgd : gs.getD k (0, 0) = g := by rw [← hg]; simp [List.getElem?_eq_getElem hk]
 have hh := hs
 obtain ⟨_, _, _, _, hit⟩ := hh
 refine ⟨?_, ⟨cs, ?_, h3⟩, h4.dup hr hit h0 hgd, ?_⟩
 ·
  have e : (!Gm.nodB (gs.take (k + 1))) = true := by
   have hin : gs[k] ∈ gs.take k := by
    obtain ⟨hlt, e⟩ := Gm.gAt_lt (gs := gs) h0 (Nat.le_trans (h4.le r hr) (Nat.le_of_lt hk))
    have hle := h4.le r hr
    have hgg := hit.resolve_left h0
    rw [e, ← hg] at hgg
    rw [← hgg]
    exact List.mem_take_iff_getElem.2 ⟨S r - 1, by omega, rfl⟩
   have : ¬ (gs.take (k + 1)).Nodup := fun hn => ((Gm.nod_take gs k hk).1 hn).2 hin
   simp [Gm.nodB, this]
  rw [e]
  exact (h1.below hb h1.lt).put 5 _
 ·
  exact (h2.below hb h2.lt).far (by simp; omega) _
 exact grown_set (grown_below h5 hb) (Or.inl rfl) _
theorem BInv.put {w wr w2 : World} {ib : Nat} {A : Option Addr} {c : Nat} {gs : List (Int × Int)} {d st se : Value} {N k r : Nat} {S : Nat → Nat} {g : Int × Int} (h : BInv w wr ib A c gs d st se N k S) (hib : ib < w.heap.size) (hk : k < gs.length) (hg : gs[k] = g)
  (hb : Below wr.heap.size wr w2) (hr : r < N) (hs : Gm.Stops gs N S g (hashF g) r) (h0 : S r = 0) : BInv w (w2.setCell ⟨w.heap.size, r, none⟩ (.int .i64 ((k : Int) + 1))) ib A c gs d st se N (k + 1) (Gm.upd S r (k + 1)) := by
 obtain ⟨h1, ⟨cs, h2, h3⟩, h4, h5⟩ := h
 have hgd : gs.getD k (0, 0) = g := by rw [← hg]; simp [List.getElem?_eq_getElem hk]
 refine ⟨?_, ⟨_, (h2.below hb h2.lt).put r _, fun i hi => ?_⟩, h4.put hr hs h0 hgd, ?_⟩
 ·
  have e : Gm.nodB (gs.take (k + 1)) = Gm.nodB (gs.take k) := by
   have hnot : gs[k] ∉ gs.take k := by
    intro hin
    obtain ⟨p, hp, e⟩ := List.mem_take_iff_getElem.1 hin
    refine h4.miss hs h0 p (by omega) ?_
    rw [← hg, ← e]
    simp [List.getElem?_eq_getElem (show p < gs.length by omega)]
   have := Gm.nod_take gs k hk
   simp [Gm.nodB, this, hnot]
  rw [e]
  exact (h1.below hb h1.lt).far (by simp; omega) _
 ·
  rw [Array.getElem?_setIfInBounds]
  by_cases e : r = i
  ·
   subst e
   have : r < cs.size := by
    have := h3 r hr
    apply Classical.byContradiction
    intro hn
    rw [Array.getElem?_eq_none (by omega)] at this
    cases this
   simp [this, Gm.upd]
  rw [if_neg e, h3 i hi]
  simp [Gm.upd, show ¬ i = r from fun e' => e e'.symm]
 exact grown_set (grown_below h5 hb) (Or.inr (Nat.le_refl _)) _

set_option maxRecDepth 100000 in
set_option maxHeartbeats 2000000 in
theorem build_any (ib : Nat) (A : Option Addr) (c : Nat) (gs : List (Int × Int)) (d st se sv : Value) (w : World) (B : Nat)
  (hl : gs.length ≤ 2000) (hix : Blk w ib 125 #[.slice A gs.length c, d, st, se, sv, .bool false]) (hg : Gr w B A gs) (hB : B ≤ ib) :
  Calls Tryz.prog 111 #[.pointer (some ⟨ib, 0, none⟩)] w
   fun e w' => e = .returned (.tuple #[]) ∧ Built w' ib w.heap.size A c gs d st se ∧ w.grownBy w' (some ib) := by
 have hib := hix.lt
 have c0 := hix.cell 0
 have c4 := hix.cell 4
 have f4 := hix.frozen 4
 simp only [zD, zE, zF] at c0 c4
 have hbl := bitLen_lt gs.length (by omega)
 have hbt := bitLen_top gs.length hl
 have hsh := shl_two _ hbt
 have hp1 : 2 ^ (Lib.bitLen gs.length + 1) ≤ 2 ^ 12 := Nat.pow_le_pow_right (by omega) (by omega)
 have hp2 : gs.length < 2 ^ (Lib.bitLen gs.length + 1) := by rw [Nat.pow_succ]; omega
 generalize hN : 2 ^ (Lib.bitLen gs.length + 1) = N at *
 have HN := Lib.hid hN
 have hmk := make_ints N (by omega)
 clear hN hbl hbt
 go_enter Tryz.func111, Tryz.ntmps111
 go_wp2_with (go_at_call 121; refine (len_any _ _ (by omega) (by omega)).mono ?_; rintro e w' ⟨rfl, rfl⟩)
 have hst := BInv.start (N := N) hix
 have HST := Lib.hid hst
 clear hst hsh hmk c0 c4 f4
 go_loopw [22] (fun i wr => ∃ (k : Nat) (S : Nat → Nat), k ≤ gs.length ∧ i = .int .i64 (k : Int) ∧ BInv w wr ib A c gs d st se N k S) (fun i _ => gs.length - (intOf i).toNat)
 case atStart => exact ⟨0, _, Nat.zero_le _, rfl, HST.out⟩
 obtain ⟨k, S, hk, rfl, hinv⟩ := hrel
 have hinv' := hinv
 obtain ⟨h1, ⟨cs, h2, h3⟩, h4, h5⟩ := hinv'
 by_cases hlt : k < gs.length
 ·
  obtain ⟨b, off, hA, hbB, g1, g2⟩ := (hg.grown h5 (by omega) (fun _ e => by injection e with e; omega)) k hlt
  subst hA
  generalize hgk : gs[k] = g at *
  obtain ⟨x, y⟩ := g
  simp only at g1 g2
  have HGK := Lib.hid hgk
  have hwr : w.heap.size < wr.heap.size := h2.lt
  have hsl := slot_any ib w.heap.size (Lib.bitLen gs.length + 1) (some ⟨b, off, none⟩) c gs S x y (wr.alloc (Obj.cells #[.int .i64 x, .int .i64 y] 57)) (by simp; omega) (by simp; omega)
   (by rw [HN.out]; omega) (by omega) (by rw [(h1.alloc _).cell 0]; rfl) (by rw [(h1.alloc _).cell 4, HN.out]; rfl) B ((hg.grown h5 (by omega) (fun _ e => by injection e with e; omega)).keep (fun p hp => World.cell?_alloc_lt wr _ p (by omega))) (by simp; omega)
   (by rw [HN.out]; exact fun i hi => by rw [(h2.alloc _).cell i]; exact h3 i hi) (by rw [HN.out]; exact fun i hi => Nat.le_trans (h4.le i hi) hk) (by rw [HN.out]; exact Nat.lt_of_le_of_lt h4.few (by omega))
  rw [HN.out] at hsl
  have HSL := Lib.hid hsl
  have HI := Lib.hid hinv
  have H3 := Lib.hid h3
  clear hsl hgk hinv h3
  go_wp2_with fail
  refine HSL.out.mono ?_
  rintro e w2 ⟨r, rfl, hr, hs, hb⟩
  have hbw : Below wr.heap.size wr w2 := ((Below.refl _ _).alloc (Nat.le_refl _) _).trans (hb.mono (by simp))
  have b1 := h1.below hbw h1.lt
  have b2 := h2.below hbw h2.lt
  have c4 := b1.cell 4
  have c5 := b1.cell 5
  have f5 := b1.frozen 5
  have cr := (b2.cell r).trans (H3.out r hr)
  have fr := b2.frozen r
  simp only [zD, zE, zF] at c4 c5
  have hix1 := ix1 w.heap.size N r (by omega) hr
  have HS := Lib.hid hs
  have HR := Lib.hid hr
  clear hs hb hr
  by_cases hz : S r = 0
  ·
   have HP := Lib.hid (HI.out.put hib hlt HGK.out hbw HR.out HS.out hz)
   rw [hz] at cr
   have cr0 : w2.cell? ⟨w.heap.size, r, none⟩ = some (.int .i64 0) := cr
   clear cr hz
   have hd : ((0 : Int) != 0) = false := by simp
   go_wp2
   go_roundw
   case rel => exact ⟨k + 1, _, by omega, by go_num, HP.out⟩
   case measure => simp [intOf]; omega
  have HP := Lib.hid (HI.out.dup hib hlt HGK.out hbw HR.out HS.out hz)
  have hd : ((S r : Int) != 0) = true := by simp; omega
  clear hz
  go_wp2
  go_roundw
  case rel => exact ⟨k + 1, _, by omega, by go_num, HP.out⟩
  case measure => simp [intOf]; omega
 have hkk : k = gs.length := by omega
 subst hkk
 rw [List.take_length] at h1
 have HB := Lib.hid (show Built wr ib w.heap.size A c gs d st se from ⟨w.heap.size, Lib.bitLen gs.length + 1, S, by rw [HN.out]; exact h1, Nat.le_refl _, h2.lt, by rw [HN.out]; exact fun i hi => by rw [h2.cell i]; exact h3 i hi, by rw [HN.out]; exact h4, by rw [HN.out]; omega, by rw [HN.out]; exact hp2⟩)
 clear hinv h3
 go_wp2
 go_end0
 exact ⟨rfl, HB.out, h5⟩
end Go.Proofs.YtpejilhdhkmcjaaGreatDoor
