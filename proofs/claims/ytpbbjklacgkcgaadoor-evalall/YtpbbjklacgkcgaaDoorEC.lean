/- start, of both kinds; open; the closure of Three. -/
import Derived.Test.YtpbbjklacgkcgaaDoorEB
import Derived.Laws.CopyOwn
namespace Go.Proofs.YtpbbjklacgkcgaaDoor
open Go.RowKit

set_option maxHeartbeats 4000000 in
theorem three1_any (cb : Nat) (A : Option Addr) (c : Nat) (zs : List Int) (x y : Int) (w : World) (B : Nat) (hV : Vs w B A (iv zs)) (hT : Tabs w) (h3 : Em.All3 zs) (hcb : w.cell? ⟨cb, 0, none⟩ = some (.slice A zs.length c)) (hx0 : 0 ≤ x) (hx1 : (x / 2).toNat < zs.length) (hy0 : 0 ≤ y) (hy1 : (y / 2).toNat < zs.length) (hm : zs.length ≤ 1000000) :
    Calls Tryd.prog 35 #[.int .i64 x, .int .i64 y, .pointer (some ⟨cb, 0, none⟩)] w fun e w' => e = .returned (.int .i64 (Em.gateT zs (x, y))) ∧ ∃ m, w' = w.drewN m := by
  have h1 := Lib.hid (fun m => three_any A c zs x (w.drewN m) B (hV.drewN m) (hT.drewN m) h3 hx0 hx1 hm)
  have h2 := Lib.hid (fun m => three_any A c zs y (w.drewN m) B (hV.drewN m) (hT.drewN m) h3 hy0 hy1 hm)
  unfold Em.gateT
  simp only
  obtain ⟨p, hp3, hp⟩ := T3_nat (h3.tri x)
  obtain ⟨q, hq3, hq⟩ := T3_nat (h3.tri y)
  rw [hp] at h1
  rw [hq] at h2
  rw [hp, hq]
  have hg := hT.gate p q hp3 hq3
  have e1 := ixG p hp3
  have e2 := ixH 0 (p * 3) q hq3
  clear hp hq hV hT h3
  generalize Em.andT p q = r at *
  go_enter Tryd.func35, Tryd.ntmps35
  go_wp2_with fail
  go_quiet (first | (go_at_call_of 36 x; exact ((h1.out _).mono fun _ _ ⟨a, b⟩ => ⟨a, _, b⟩)) | (go_at_call_of 36 y; exact ((h2.out _).mono fun _ _ ⟨a, b⟩ => ⟨a, _, b⟩)))
  go_wp2
  go_ret
  exact ⟨rfl, _, rfl⟩

def falses (N : Nat) : Array Value := Array.replicate N (.bool false)
theorem made_falses (N : Nat) : madeCells (Value.bool false).cells N = falses N := by
  unfold madeCells falses
  apply Array.ext
  · simp
  · intro i h1 h2
    simp [Value.cells, Nat.mod_one]
theorem make_bools (N : Nat) (hN : N ≤ 1000000) (w : World) : (Instr.makeSlice 25 (.int .i64 (N : Int)) (.int .i64 (N : Int))).run Tryd.prog w = .ok (.slice (some ⟨w.heap.size, 0, none⟩) N N) (w.alloc (.cells (falses N) 4)) := by
  have hb : (Tryd.t4).bytes = 1 := by kernel_rfl
  have hs : (Tryd.t4).size = 1 := by kernel_rfl
  have := run_make (P := Tryd.prog) w 25 4 Tryd.t4 (.bool false) Tryd.underlying25 (by kernel_rfl) (by kernel_rfl) .i64 .i64 N N (by omega) (by omega) (by rw [hb]; omega) (by omega)
  rw [hs, Nat.mul_one, Int.toNat_natCast, made_falses] at this
  exact this
end Go.Proofs.YtpbbjklacgkcgaaDoor
