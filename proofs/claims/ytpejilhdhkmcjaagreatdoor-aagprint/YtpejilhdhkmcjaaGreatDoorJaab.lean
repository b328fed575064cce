/- ordered, over a slice of gates in memory. -/
import Derived.Test.YtpejilhdhkmcjaaGreatDoorJaAl
import Derived.Test.YtpejilhdhkmcjaaGreatDoorJaaa
import Derived.Deep.LoopGhost
import Derived.Lib.BitFns
import Derived.Lib.ItoaNum
namespace Go.Proofs.YtpejilhdhkmcjaaGreatDoor
open Go.RowKit

/-- The slice at A, which lies below block B, holds the gates gs. -/
def Gr (w : World) (B : Nat) (A : Option Addr) (gs : List (Int × Int)) : Prop :=
 ∀ k (hk : k < gs.length), ∃ b off, A = some ⟨b, off, none⟩ ∧ b < B ∧
  w.cell? ⟨b, off + k * 2, none⟩ = some (.int .i64 (gs[k]).1) ∧ w.cell? ⟨b, off + k * 2 + 1, none⟩ = some (.int .i64 (gs[k]).2)

theorem Gr.keep {w w' : World} {B : Nat} {A : Option Addr} {gs : List (Int × Int)} (h : Gr w B A gs) (hk : ∀ p : Addr, p.block < B → w'.cell? p = w.cell? p) : Gr w' B A gs := by
 intro k hlt
 obtain ⟨b, off, rfl, hb, h1, h2⟩ := h k hlt
 exact ⟨b, off, rfl, hb, (hk ⟨b, _, none⟩ hb).trans h1, (hk ⟨b, _, none⟩ hb).trans h2⟩
theorem Gr.below {w w' : World} {B C : Nat} {A : Option Addr} {gs : List (Int × Int)} (h : Gr w B A gs) (hb : Below C w w') (hB : B ≤ C) : Gr w' B A gs :=
 h.keep fun _ hp => hb.cell (Nat.lt_of_lt_of_le hp hB)
theorem Gr.more {w : World} {B C : Nat} {A : Option Addr} {gs : List (Int × Int)} (h : Gr w B A gs) (hB : B ≤ C) : Gr w C A gs := by
 intro k hlt
 obtain ⟨b, off, rfl, hb, h1, h2⟩ := h k hlt
 exact ⟨b, off, rfl, Nat.lt_of_lt_of_le hb hB, h1, h2⟩
theorem Gr.grown {w w' : World} {B : Nat} {row : Option Nat} {A : Option Addr} {gs : List (Int × Int)} (h : Gr w B A gs) (hg : w.grownBy w' row) (hB : B ≤ w.heap.size) (hr : ∀ k, row = some k → B ≤ k) : Gr w' B A gs :=
 h.keep fun p hp => World.cell?_of_block (hg.block p.block (by omega) (fun e => by have := hr _ e.symm; omega))

theorem ret_bool {a b : Bool} (h : a = b) : Ending.returned (.bool a) = .returned (.bool b) := by rw [h]
theorem ret_int {k : IntKind} {a b : Int} (h : a = b) : Ending.returned (.int k a) = .returned (.int k b) := by rw [h]
/-- The numbers of gates are ints. -/
def Wf (gs : List (Int × Int)) : Prop := ∀ g ∈ gs, (-9223372036854775808 ≤ g.1 ∧ g.1 ≤ 9223372036854775807) ∧ -9223372036854775808 ≤ g.2 ∧ g.2 ≤ 9223372036854775807

set_option maxHeartbeats 1000000 in
theorem ordered_any (n : Int) (A : Option Addr) (c : Nat) (gs : List (Int × Int)) (w : World) (h0 : 0 ≤ n) (h1 : n ≤ 2000) (hl : gs.length ≤ 1000000) (B : Nat) (hg : Gr w B A gs) (hB : B ≤ w.heap.size) (hw : Wf gs) :
  Calls Tryz.prog 96 #[.agg #[.int .i64 n, .slice A gs.length c]] w fun e w' => e = .returned (.bool (Gm.ordB n 0 gs)) ∧ Below w.heap.size w w' := by
 go_enter Tryz.func96, Tryz.ntmps96
 go_wp2
 go_loopw [3, 12] (fun o i wr => ∃ k : Nat, k ≤ gs.length ∧ o = .int .i64 (n + 1 + k) ∧ i = .int .i64 k ∧ Gm.ordB n 0 (gs.take k) = true ∧ Below w.heap.size w wr ∧ w.heap.size < wr.heap.size ∧ wr.cell? ⟨w.heap.size, 0, none⟩ = some (.int .i64 n) ∧ wr.cell? ⟨w.heap.size, 1, none⟩ = some (.slice A gs.length c)) (fun _ i _ => gs.length - (intOf i).toNat)
 case atStart => exact ⟨0, Nat.zero_le _, by simp, rfl, rfl, (Below.refl _ _).alloc (Nat.le_refl _) _, by simp, by simp, by simp⟩
 obtain ⟨k, hk, rfl, rfl, ho, hbl, hsz, hc0, hc1⟩ := hrel
 by_cases hlt : k < gs.length
 ·
  obtain ⟨b, off, hA, hbw, g1, g2⟩ := (hg.below hbl hB) k hlt
  subst hA
  have hwk := hw gs[k] (by simp)
  have hot := Gm.ordB_take n gs k hlt
  have hof := fun h => Gm.ordB_false n gs 0 k hlt h
  rw [Nat.zero_add] at hof
  generalize gs[k] = g at *
  obtain ⟨x, y⟩ := g
  simp only at g1 g2 hwk
  obtain ⟨⟨hx0, hx1⟩, hy0, hy1⟩ := hwk
  rw [ho, Bool.true_and] at hot
  have H1 := Lib.hid hot
  have H2 := Lib.hid hof
  have HO := Lib.hid ho
  clear hot hof ho
  have hbn : Below w.heap.size w (wr.alloc (Obj.cells #[.int .i64 x, .int .i64 y] 57)) := hbl.alloc hbl.size _
  by_cases hx : x < 2
  ·
   have HF : Gm.gateB n k (x, y) = false := by simp [Gm.gateB]; omega
   go_wp2
   go_ret
   exact ⟨ret_bool (H2.out HF).symm, hbn⟩
  by_cases hy : y < 2
  ·
   have HF : Gm.gateB n k (x, y) = false := by simp [Gm.gateB]; omega
   go_wp2
   go_ret
   exact ⟨ret_bool (H2.out HF).symm, hbn⟩
  by_cases hxy : x / 2 ≤ y / 2
  ·
   have HF : Gm.gateB n k (x, y) = false := by simp [Gm.gateB]; omega
   have hF := Lib.hid (H2.out HF)
   clear HF H2 H1
   go_wp2
   go_quiet ((go_at_call 109; exact Calls.quiet_of_same ((variable_any _ _ (by omega) (by omega)).mono fun _ _ ⟨a, b⟩ => ⟨a, b.symm⟩)))
   go_wp2
   go_ret
   exact ⟨ret_bool hF.out.symm, by exact below_drewN hbn _⟩
  by_cases hn : n + 1 + k ≤ x / 2
  ·
   have HF : Gm.gateB n k (x, y) = false := by simp [Gm.gateB]; omega
   have hF := Lib.hid (H2.out HF)
   clear HF H2 H1
   have hd : decide (x / 2 ≤ y / 2) = false := by simpa using hxy
   go_wp2
   go_quiet ((go_at_call 109; exact Calls.quiet_of_same ((variable_any _ _ (by omega) (by omega)).mono fun _ _ ⟨a, b⟩ => ⟨a, b.symm⟩)))
   go_wp2
   go_ret
   exact ⟨ret_bool hF.out.symm, by exact below_drewN hbn _⟩
  have HF : Gm.gateB n k (x, y) = true := by simp [Gm.gateB]; omega
  have hT := Lib.hid (H1.out.trans HF)
  clear HF H2 H1
  have hd : decide (x / 2 ≤ y / 2) = false := by simpa using hxy
  have hd2 : decide (n + 1 + (k : Int) ≤ x / 2) = false := by simpa using hn
  go_wp2
  go_quiet ((go_at_call 109; exact Calls.quiet_of_same ((variable_any _ _ (by omega) (by omega)).mono fun _ _ ⟨a, b⟩ => ⟨a, b.symm⟩)))
  go_wp2
  go_roundw
  case rel => exact ⟨k + 1, by omega, by go_num, by go_num, hT.out, by exact below_drewN hbn _, by simp; omega, by exact (World.cell?_alloc_lt wr _ ⟨w.heap.size, 0, none⟩ hsz).trans hc0, by exact (World.cell?_alloc_lt wr _ ⟨w.heap.size, 1, none⟩ hsz).trans hc1⟩
  case measure => simp [intOf]; omega
 have hkk : k = gs.length := by omega
 have HO : Hid (Gm.ordB n 0 gs = true) := by rw [hkk, List.take_length] at ho; exact ho
 clear ho hkk
 go_wp2
 go_ret
 exact ⟨ret_bool HO.out.symm, hbl⟩
end Go.Proofs.YtpejilhdhkmcjaaGreatDoor
/- math/bits.Len at numbers below 65536. -/
namespace Go.Proofs.YtpejilhdhkmcjaaGreatDoor
open Go.RowKit

set_option maxRecDepth 100000 in
set_option maxHeartbeats 4000000 in
theorem len64_any (x : Int) (w : World) (h0 : 0 ≤ x) (h1 : x ≤ 65535) :
  Calls Tryz.prog 141 #[.int .u64 x] w fun e w' => e = .returned (.int .i64 (Lib.bitLen x.toNat)) ∧ w = w' := by
 by_cases hx : x ≤ 255
 ·
  have hl := Lib.bitLen_le8' x h0 hx
  have H := Lib.hid (Lib.len8_of x h0 hx)
  go_enter Tryz.func141, Tryz.ntmps141
  go_wp2
  all_goals (go_ret; refine ⟨congrArg Ending.returned (congrArg (Value.int IntKind.i64) ?_), rfl⟩)
  rw [H.out]
  unfold wrap64
  omega
 have h2 : 0 ≤ x / 256 := by omega
 have h3 : x / 256 ≤ 255 := by omega
 have hl := Lib.bitLen_le8' (x / 256) h2 h3
 have H := Lib.hid (Lib.len8_of (x / 256) h2 h3)
 have e : (x / 256).toNat = x.toNat / 256 := by omega
 have s := Lib.bitLen_shift8 x.toNat (by omega) (by omega)
 rw [← e] at s
 have HS := Lib.hid s
 clear s e
 go_enter Tryz.func141, Tryz.ntmps141
 go_wp2
 all_goals (go_ret; refine ⟨congrArg Ending.returned (congrArg (Value.int IntKind.i64) ?_), rfl⟩)
 rw [H.out, HS.out]
 unfold wrap64
 omega

set_option maxRecDepth 100000 in
set_option maxHeartbeats 4000000 in
theorem len_any (x : Int) (w : World) (h0 : 0 ≤ x) (h1 : x ≤ 65535) :
  Calls Tryz.prog 121 #[.int .u64 x] w fun e w' => e = .returned (.int .i64 (Lib.bitLen x.toNat)) ∧ w = w' := by
 go_enter Tryz.func121, Tryz.ntmps121
 go_wp2_with (go_at_call 141; refine (len64_any _ _ h0 h1).mono ?_; rintro e w' ⟨rfl, rfl⟩)
 go_ret
 exact ⟨rfl, rfl⟩

theorem bitLen_lt (x : Nat) (h : x ≤ 65535) : x < 2 ^ Lib.bitLen x := by
 by_cases e : x = 0
 ·
  subst e; exact Nat.two_pow_pos _
 exact (Lib.bitLenAux_bounds 64 x (by omega) e).2.2
theorem bitLen_top (x : Nat) (h : x ≤ 2000) : Lib.bitLen x ≤ 11 := Lib.bitLen_le x 11 (by omega) (by omega)
end Go.Proofs.YtpejilhdhkmcjaaGreatDoor
