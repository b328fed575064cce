/- Small functions of package eval and of its reference: negative, two, three, bit, turn; slices of values of one cell; the package's tables. -/
import Derived.Test.YtpbbjklacgkcgaaDoorEM
namespace Go.Proofs.YtpbbjklacgkcgaaDoor
open Go.RowKit

/-- The slice at A, which lies below block B, holds the values vs. -/
def Vs (w : World) (B : Nat) (A : Option Addr) (vs : List Value) : Prop :=
  ∀ k (hk : k < vs.length), ∃ b off, A = some ⟨b, off, none⟩ ∧ b < B ∧ w.cell? ⟨b, off + k, none⟩ = some vs[k]
theorem Vs.keep {w w' : World} {B : Nat} {A : Option Addr} {vs : List Value} (h : Vs w B A vs) (hk : ∀ p : Addr, p.block < B → w'.cell? p = w.cell? p) : Vs w' B A vs := by
  intro k hlt
  obtain ⟨b, off, rfl, hb, h1⟩ := h k hlt
  exact ⟨b, off, rfl, hb, (hk ⟨b, _, none⟩ hb).trans h1⟩
theorem Vs.below {w w' : World} {B C : Nat} {A : Option Addr} {vs : List Value} (h : Vs w B A vs) (hb : Below C w w') (hB : B ≤ C) : Vs w' B A vs :=
  h.keep fun _ hp => hb.cell (Nat.lt_of_lt_of_le hp hB)
theorem Vs.more {w : World} {B C : Nat} {A : Option Addr} {vs : List Value} (h : Vs w B A vs) (hB : B ≤ C) : Vs w C A vs := by
  intro k hlt
  obtain ⟨b, off, rfl, hb, h1⟩ := h k hlt
  exact ⟨b, off, rfl, Nat.lt_of_lt_of_le hb hB, h1⟩
theorem Vs.far {w : World} {B : Nat} {A : Option Addr} {vs : List Value} (h : Vs w B A vs) {p : Addr} (hp : B ≤ p.block) (u : Value) : Vs (w.setCell p u) B A vs :=
  h.keep fun q hq => World.cell?_setCell_other w p q u (fun e => by subst e; omega)
theorem Vs.drewN {w : World} {B : Nat} {A : Option Addr} {vs : List Value} (h : Vs w B A vs) (n : Nat) : Vs (w.drewN n) B A vs := h
theorem Vs.drew {w : World} {B : Nat} {A : Option Addr} {vs : List Value} (h : Vs w B A vs) : Vs w.drew B A vs := h
abbrev bv (bs : List Bool) : List Value := bs.map .bool
abbrev iv (zs : List Int) : List Value := zs.map (.int .i64)
theorem Vs.bool {w : World} {B : Nat} {A : Option Addr} {bs : List Bool} (h : Vs w B A (bv bs)) (k : Nat) (hk : k < bs.length) : ∃ b off, A = some ⟨b, off, none⟩ ∧ b < B ∧ w.cell? ⟨b, off + k, none⟩ = some (.bool (bs.getD k false)) := by
  obtain ⟨b, off, e, hb, h1⟩ := h k (by simpa using hk)
  refine ⟨b, off, e, hb, h1.trans ?_⟩
  simp [List.getD_eq_getElem?_getD, List.getElem?_eq_getElem hk]
theorem Vs.int {w : World} {B : Nat} {A : Option Addr} {zs : List Int} (h : Vs w B A (iv zs)) (k : Nat) (hk : k < zs.length) : ∃ b off, A = some ⟨b, off, none⟩ ∧ b < B ∧ w.cell? ⟨b, off + k, none⟩ = some (.int .i64 (zs.getD k 0)) := by
  obtain ⟨b, off, e, hb, h1⟩ := h k (by simpa using hk)
  refine ⟨b, off, e, hb, h1.trans ?_⟩
  simp [List.getD_eq_getElem?_getD, List.getElem?_eq_getElem hk]
theorem ixB (sb off N c r : Nat) (hm : N ≤ 1000000) (hr : r < N) (w : World) : (Instr.indexAt 25 (.slice (some ⟨sb, off, none⟩) N c) (.int .i64 (r : Int))).run Tryd.prog w = .ok (.pointer (some ⟨sb, off + r, none⟩)) w := by go_simp
theorem ixI (sb off N c r : Nat) (hm : N ≤ 1000000) (hr : r < N) (w : World) : (Instr.indexAt 26 (.slice (some ⟨sb, off, none⟩) N c) (.int .i64 (r : Int))).run Tryd.prog w = .ok (.pointer (some ⟨sb, off + r, none⟩)) w := by go_simp

theorem mod_two {l : Int} (h : 0 ≤ l) : decide (l % 2 = 1) = Em.negL l := rfl
set_option maxHeartbeats 400000 in
theorem negative_any (l : Int) (w : World) (h0 : 0 ≤ l) (h1 : l ≤ 9223372036854775807) :
    Calls Tryd.prog 48 #[.int .i64 l] w fun e w' => e = .returned (.bool (Em.negL l)) ∧ w' = w := by
  go_enter Tryd.func48, Tryd.ntmps48
  go_wp2
  go_ret
  exact ⟨rfl, rfl⟩

set_option maxHeartbeats 2000000 in
theorem two_any (A : Option Addr) (c : Nat) (bs : List Bool) (l : Int) (w : World) (B : Nat) (hV : Vs w B A (bv bs)) (h0 : 0 ≤ l) (h1 : (l / 2).toNat < bs.length) (hm : bs.length ≤ 1000000) :
    Calls Tryd.prog 27 #[.slice A bs.length c, .int .i64 l] w fun e w' => e = .returned (.bool (Em.bitB bs l)) ∧ ∃ m, w' = w.drewN m := by
  obtain ⟨b, off, rfl, _, hc⟩ := hV.bool _ h1
  have hq : l / 2 = ((l / 2).toNat : Int) := by omega
  unfold Em.bitB
  generalize bs.getD (l / 2).toNat false = x at *
  generalize (l / 2).toNat = r at *
  have hix := ixB b off bs.length c r hm h1
  have hn := Lib.hid (negative_any l)
  generalize Em.negL l = y at *
  go_enter Tryd.func27, Tryd.ntmps27
  go_wp2_with fail
  go_quiet ((go_at_call 48; exact Calls.quiet_of_same (hn.out _ h0 (by omega))))
  go_wp2
  go_ret
  exact ⟨rfl, _, rfl⟩
end Go.Proofs.YtpbbjklacgkcgaaDoor
