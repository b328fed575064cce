/- The package's tables; three, of the program and of the reference; bit; the closures of All and Three. -/
import Derived.Test.YtpbbjklacgkcgaaDoorEA
namespace Go.Proofs.YtpbbjklacgkcgaaDoor
open Go.RowKit

/-- The package's tables lie where they were laid. -/
structure Tabs (w : World) : Prop where
  gate : ∀ i j : Nat, i < 3 → j < 3 → w.cell? ⟨0, i * 3 + j, none⟩ = some (.int .i64 (Em.andT i j))
  neg : ∀ i : Nat, i < 3 → w.cell? ⟨1, i, none⟩ = some (.int .i64 (Em.turnT i))
  sz : 2 ≤ w.heap.size
theorem Tabs.below {w w' : World} {B : Nat} (h : Tabs w) (hb : Below B w w') (hB : 2 ≤ B) : Tabs w' :=
  ⟨fun i j hi hj => (hb.cell (p := ⟨0, _, none⟩) (by simp; omega)).trans (h.gate i j hi hj), fun i hi => (hb.cell (p := ⟨1, _, none⟩) (by simp; omega)).trans (h.neg i hi), Nat.le_trans h.sz hb.size⟩
theorem Tabs.drewN {w : World} (h : Tabs w) (n : Nat) : Tabs (w.drewN n) := ⟨h.gate, h.neg, h.sz⟩
theorem Tabs.drew {w : World} (h : Tabs w) : Tabs w.drew := ⟨h.gate, h.neg, h.sz⟩
theorem Tabs.set {w : World} (h : Tabs w) {p : Addr} (hp : 2 ≤ p.block) (u : Value) : Tabs (w.setCell p u) :=
  ⟨fun i j hi hj => (World.cell?_setCell_other w p ⟨0, _, none⟩ u (fun e => by subst e; simp at hp)).trans (h.gate i j hi hj), fun i hi => (World.cell?_setCell_other w p ⟨1, _, none⟩ u (fun e => by subst e; simp at hp)).trans (h.neg i hi), by simpa [World.setCell] using h.sz⟩
theorem ixG (i : Nat) (hi : i < 3) (w : World) : (Instr.indexAt 59 (.pointer (some ⟨0, 0, none⟩)) (.int .i64 (i : Int))).run Tryd.prog w = .ok (.pointer (some ⟨0, i * 3, none⟩)) w := by
  have : i = 0 ∨ i = 1 ∨ i = 2 := by omega
  rcases this with rfl | rfl | rfl <;> go_simp
theorem ixH (b o i : Nat) (hi : i < 3) (w : World) : (Instr.indexAt 58 (.pointer (some ⟨b, o, none⟩)) (.int .i64 (i : Int))).run Tryd.prog w = .ok (.pointer (some ⟨b, o + i, none⟩)) w := by
  have : i = 0 ∨ i = 1 ∨ i = 2 := by omega
  rcases this with rfl | rfl | rfl <;> go_simp
theorem T3_nat {x : Int} (h : Em.T3 x) : ∃ i : Nat, i < 3 ∧ x = (i : Int) := by
  rcases h with rfl | rfl | rfl
  · exact ⟨0, by omega, rfl⟩
  · exact ⟨1, by omega, rfl⟩
  · exact ⟨2, by omega, rfl⟩

set_option maxHeartbeats 2000000 in
theorem three_any (A : Option Addr) (c : Nat) (zs : List Int) (l : Int) (w : World) (B : Nat) (hV : Vs w B A (iv zs)) (hT : Tabs w) (h3 : Em.All3 zs) (h0 : 0 ≤ l) (h1 : (l / 2).toNat < zs.length) (hm : zs.length ≤ 1000000) :
    Calls Tryd.prog 36 #[.slice A zs.length c, .int .i64 l] w fun e w' => e = .returned (.int .i64 (Em.triT zs l)) ∧ w' = w := by
  obtain ⟨b, off, rfl, _, hc⟩ := hV.int _ h1
  have hq : l / 2 = ((l / 2).toNat : Int) := by omega
  obtain ⟨x, hx3, hx⟩ := T3_nat (h3 (l / 2).toNat)
  have hng := hT.neg x hx3
  unfold Em.triT
  rw [hx] at hc ⊢
  clear hx h3 hV
  generalize (l / 2).toNat = r at *
  have hix := ixI b off zs.length c r hm h1
  have hih := ixH 1 0 x hx3
  rw [Nat.zero_add] at hih
  have hn := Lib.hid (negative_any l w h0 (by omega))
  generalize Em.turnT x = y at *
  by_cases hl : l % 2 = 1
  · rw [if_pos hl]
    have e : Em.negL l = true := by simp [Em.negL, hl]
    rw [e] at hn
    clear hl e
    go_enter Tryd.func36, Tryd.ntmps36
    go_wp2_with (go_at_call 48; refine hn.out.mono ?_; rintro e w' ⟨rfl, rfl⟩)
    go_ret
    exact ⟨rfl, rfl⟩
  · rw [if_neg hl]
    have e : Em.negL l = false := by simp [Em.negL, hl]
    rw [e] at hn
    clear hl e
    go_enter Tryd.func36, Tryd.ntmps36
    go_wp2_with (go_at_call 48; refine hn.out.mono ?_; rintro e w' ⟨rfl, rfl⟩)
    go_ret
    exact ⟨rfl, rfl⟩

set_option maxHeartbeats 2000000 in
theorem all1_any (cb : Nat) (A : Option Addr) (c : Nat) (bs : List Bool) (x y : Int) (u1 u2 : Array Value) (w : World) (B : Nat) (hV : Vs w B A (bv bs)) (hcb : w.cell? ⟨cb, 0, none⟩ = some (.slice A bs.length c)) (hx0 : 0 ≤ x) (hx1 : (x / 2).toNat < bs.length) (hy0 : 0 ≤ y) (hy1 : (y / 2).toNat < bs.length) (hm : bs.length ≤ 1000000) :
    Calls Tryd.prog 26 #[.int .i64 x, .int .i64 y, .pointer (some ⟨cb, 0, none⟩)] w fun e w' => e = .returned (.bool (Em.gateB bs (x, y))) ∧ ∃ m, w' = w.drewN m := by
  have h1 := Lib.hid (two_any A c bs x w B hV hx0 hx1 hm)
  have h2 := Lib.hid (fun m => two_any A c bs y (w.drewN m) B (hV.drewN m) hy0 hy1 hm)
  unfold Em.gateB
  simp only
  generalize Em.bitB bs x = p at *
  generalize Em.bitB bs y = q at *
  cases p with
  | false =>
    go_enter Tryd.func26, Tryd.ntmps26
    go_wp2_with (go_at_call 27; refine h1.out.mono ?_; rintro e w' ⟨rfl, m, rfl⟩)
    go_ret
    exact ⟨rfl, _, rfl⟩
  | true =>
    go_enter Tryd.func26, Tryd.ntmps26
    go_wp2_with (first | (go_at_call 27; with_reducible refine h1.out.mono ?_; rintro e w' ⟨rfl, m, rfl⟩) | (go_at_call 27; refine (h2.out _).mono ?_; rintro e w' ⟨rfl, m2, rfl⟩))
    go_ret
    exact ⟨rfl, m + m2, rfl⟩
end Go.Proofs.YtpbbjklacgkcgaaDoor
