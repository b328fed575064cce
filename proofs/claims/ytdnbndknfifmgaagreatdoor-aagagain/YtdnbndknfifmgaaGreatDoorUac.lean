/- The reference's And. -/
import Derived.Test.YtdnbndknfifmgaaGreatDoorUab
import Derived.ProofKit
import Derived.OpenShut
import Derived.ShutString
import Derived.Deep.Slices
import Derived.Lib.SmallJoins
namespace Go.Proofs.YtdnbndknfifmgaaGreatDoor
open Go.RowKit

/-- What the reference hands back: the slice that it was given, or a new one. -/
def RefPost (r : Gm.Res) (A : Option Addr) (gs : List (Int × Int)) (w : World) (e : Ending) (w' : World) : Prop :=
  ∃ A' c', e = .returned (.tuple #[.agg #[.int .i64 r.1.1, .slice A' r.1.2.length c'], .int .i64 r.2.1, .int .i64 r.2.2]) ∧ Gr w' w'.heap.size A' r.1.2 ∧ ((A' = A ∧ r.1.2 = gs) ∨ Sep 0 w.heap.size A') ∧ Below w.heap.size w w'
theorem RefPost.drew {r : Gm.Res} {A : Option Addr} {gs : List (Int × Int)} {w V : World} {e : Ending} (h : RefPost r A gs w e V) : RefPost r A gs w e V.drew := by
  obtain ⟨A', c', he, hG, hs, hb⟩ := h
  exact ⟨A', c', he, hG, hs, hb.drew⟩
end Go.Proofs.YtdnbndknfifmgaaGreatDoor
/- The reference's And: the walk. -/
namespace Go.Proofs.YtdnbndknfifmgaaGreatDoor
open Go.RowKit

theorem Boxes.drewN {w W : World} {n : Int} {s : Value} (h : Boxes w W n s) (q : Nat) : Boxes w (W.drewN q) n s := ⟨below_drewN h.low q, h.d0, h.d1, h.e0, h.e1, h.f0, h.f1, h.sz⟩

end Go.Proofs.YtdnbndknfifmgaaGreatDoor
/- The reference's And of a right graph and its literals. -/
namespace Go.Proofs.YtdnbndknfifmgaaGreatDoor
open Go.RowKit

theorem Gr.drew {w : World} {C : Nat} {A : Option Addr} {gs : List (Int × Int)} (h : Gr w C A gs) : Gr w.drew C A gs := h
end Go.Proofs.YtdnbndknfifmgaaGreatDoor
/- A graph in a box of the law's own. -/
namespace Go.Proofs.YtdnbndknfifmgaaGreatDoor
open Go.RowKit

theorem wf_nil : Wf [] := fun g h => by cases h
/-- A graph in a box of the law's own. -/
structure GX (k : Nat) (n : Int) (A : Option Addr) (c l : Nat) (gs : List (Int × Int)) (V : World) : Prop where
  c0 : V.cell? ⟨k, 0, none⟩ = some (.int .i64 n)
  c1 : V.cell? ⟨k, 1, none⟩ = some (.slice A l c)
  lt : k < V.heap.size
  gr : Gr V V.heap.size A gs
theorem GX.below {k : Nat} {n : Int} {A : Option Addr} {c l : Nat} {gs : List (Int × Int)} {V V' : World} (h : GX k n A c l gs V) (hb : Below V.heap.size V V') : GX k n A c l gs V' :=
  ⟨(hb.cell (p := ⟨k, 0, none⟩) h.lt).trans h.c0, (hb.cell (p := ⟨k, 1, none⟩) h.lt).trans h.c1, Nat.lt_of_lt_of_le h.lt hb.size, (h.gr.below hb (Nat.le_refl _)).more hb.size⟩
theorem GX.drew {k : Nat} {n : Int} {A : Option Addr} {c l : Nat} {gs : List (Int × Int)} {V : World} (h : GX k n A c l gs V) : GX k n A c l gs V.drew := ⟨h.c0, h.c1, h.lt, h.gr⟩
theorem GX.alloc {k : Nat} {n : Int} {A : Option Addr} {c l : Nat} {gs : List (Int × Int)} {V : World} (h : GX k n A c l gs V) (o : Obj) : GX k n A c l gs (V.alloc o) := h.below ((Below.refl V.heap.size V).alloc (Nat.le_refl _) o)
theorem GX.new {V : World} {n : Int} {A : Option Addr} {c l : Nat} {gs : List (Int × Int)} (h : Gr V V.heap.size A gs) (t : TypeId) : GX V.heap.size n A c l gs (V.alloc (Obj.cells #[.int .i64 n, .slice A l c] t)) := by
  have hk := Blk.new V t #[.int .i64 n, .slice A l c]
  have hb := (Below.refl V.heap.size V).alloc (Nat.le_refl _) (Obj.cells #[.int .i64 n, .slice A l c] t)
  exact ⟨hk.cell 0, hk.cell 1, by simp, (h.below hb (Nat.le_refl _)).more hb.size⟩

end Go.Proofs.YtdnbndknfifmgaaGreatDoor
/- The reference's Same, of equal graphs. -/
namespace Go.Proofs.YtdnbndknfifmgaaGreatDoor
open Go.RowKit

set_option maxRecDepth 100000 in
set_option maxHeartbeats 4000000 in
theorem same_true (n : Int) (A A2 : Option Addr) (c c2 : Nat) (gs : List (Int × Int)) (w : World) (hl : gs.length ≤ 1000000) (hg : Gr w w.heap.size A gs) (hg2 : Gr w w.heap.size A2 gs) :
    Calls Tryz.prog 39 #[.agg #[.int .i64 n, .slice A gs.length c], .agg #[.int .i64 n, .slice A2 gs.length c2]] w fun e w' => e = .returned (.bool true) ∧ Below w.heap.size w w' := by
  have b1 : (n != n) = false := by simp
  have b2 : ((gs.length : Int) != (gs.length : Int)) = false := by simp
  have HL := Lib.hid hl
  obtain ⟨W, hW⟩ : ∃ W, W = ((w.alloc (Obj.cells #[Value.int .i64 n, .slice A gs.length c] 64)).alloc (Obj.cells #[.int .i64 n, .slice A2 gs.length c2] 64)) := ⟨_, rfl⟩
  have hbw : Below w.heap.size w W := by rw [hW]; exact ((Below.refl w.heap.size w).alloc (Nat.le_refl _) _).alloc (by simp) _
  have d1 : W.cell? ⟨w.heap.size, 1, none⟩ = some (.slice A gs.length c) := by rw [hW]; go_simp
  have d2 : W.cell? ⟨w.heap.size + 1, 1, none⟩ = some (.slice A2 gs.length c2) := by rw [hW]; go_simp
  go_enter Tryz.func39, Tryz.ntmps39
  go_wp2
  rw [← hW]
  clear hW b1 b2
  go_loopw [5] (fun j wr => ∃ k : Nat, k ≤ gs.length ∧ j = .int .i64 (k : Int) ∧ ∃ q, wr = W.drewN q) (fun j _ => gs.length - (intOf j).toNat)
  case atStart => exact ⟨0, Nat.zero_le _, rfl, 0, rfl⟩
  case round =>
    obtain ⟨k, hk, rfl, q, rfl⟩ := hrel
    by_cases hlt : k < gs.length
    · obtain ⟨b, off, hA, _, g1, g2⟩ := (hg.below hbw (Nat.le_refl _)) k hlt
      obtain ⟨b2, off2, hA2, _, g3, g4⟩ := (hg2.below hbw (Nat.le_refl _)) k hlt
      subst hA hA2
      have hix := ix2 b off gs.length c k HL.out hlt
      have hix2 := ix2 b2 off2 gs.length c2 k HL.out hlt
      have hgu := eqGuard2
      generalize gs[k] = g at *
      obtain ⟨x, y⟩ := g
      simp only at g1 g2 g3 g4
      have hel := neq_arr2 x y x y
      rw [show (!(x == x && y == y)) = false by simp] at hel
      go_wp2
      go_quiet (fail)
      go_wp2
      go_roundw
      case rel => exact ⟨k + 1, by omega, by go_num, q + nq, rfl⟩
      case measure => simp [intOf]; omega
    · go_wp2
      go_ret
      exact ⟨rfl, below_drewN hbw _⟩
end Go.Proofs.YtdnbndknfifmgaaGreatDoor
/- The row's last step where the call has made memory: nothing that was there has turned. -/
namespace Go.Proofs.YtdnbndknfifmgaaGreatDoor
open Go.ChangeShapes Go.WideShapes Go.ChangeAt Go.RowKit

theorem Tryz.own : ownKnob Tryz.prog.godebug = none := by kernel_rfl

section
variable {H : Type} {enc : TypeId × Value → H} {P : Program}
theorem post_low {f : Func} {s : ChangeSpec} {apart fresh handsOn again : Bool} {W W' : World} {args : Array Value} {v : Value} {ds gs : List (DataW H)} {before pa pv : List MemPlace}
    (hW : DataW.Whole enc P f.params.toList s.vars apart W args.toList ds gs before)
    (hres : ∀ (b : Nat) (sp : Nat → Bool) (hd : Bool), DataW.TrodAll enc P W' b sp hd f.resultTypes.toList (v.resultList f.resultTypes.size) (s.fn H (ds ++ gs)).results [])
    (hargs : ∀ sp : Nat → Bool, (∀ p ∈ before, sp p.block = true) → DataW.TrodAll enc P W' 0 sp true f.params.toList args.toList (s.fn H (ds ++ gs)).args pa)
    (hvars : ∀ sp : Nat → Bool, (∀ p ∈ before, sp p.block = true) → DataW.TrodVars enc P W' sp s.vars (s.fn H (ds ++ gs)).vars pv)
    (hps : before = pa ++ pv) (hb : Below W.heap.size W W')
    (hok : ∀ (j : Nat) (t : TypeId) (r : Value), f.resultTypes[j]? = some t → (v.resultList f.resultTypes.size)[j]? = some r → Value.okWide P W' .any 0 t r) :
    s.post enc P f apart fresh handsOn again W args v W' := by
  have hlt : ∀ p ∈ before, p.block < W.heap.size := fun p hp => hW.lt p hp
  have hold : ∀ p ∈ before, (fun b => decide (b < W.heap.size)) p.block = true := fun p hp => by simpa using hlt p hp
  refine ⟨ds, gs, before, [], pa, pv, hW, hres _ _ _, hargs _ hold, hvars _ hold, World.keptBut_mono (fun p hp => ⟨hp, ?_⟩) (hb.frame (· ∈ before)), fun _ => ?_⟩
  · rw [hps, List.mem_append] at hp
    exact Or.inr hp
  · obtain ⟨_, _, _, _, _, hz, hn⟩ := hW
    refine ⟨hok, _, _, ([] ++ pa) ++ pv, ⟨[] ++ pa, pv, trodAll_append (hargs _ (fun _ _ => rfl)) (hres _ _ _), hvars _ (fun _ _ => rfl), rfl, ?_, ?_⟩, ?_⟩
    · intro b off hp
      have hin : MemPlace.cell b off ∈ before := by rw [hps]; simpa using hp
      rw [hb.frozen (hlt _ hin)]
      exact hz b off hin
    · intro ha
      have := hn ha
      rw [hps] at this
      simpa using this
    · intro p hp _
      rw [hps]
      simpa using hp
end
end Go.Proofs.YtdnbndknfifmgaaGreatDoor
/- What And makes of a right graph is right; Or and Ite likewise. -/
namespace Go.Proofs.YtdnbndknfifmgaaGreatDoor
open Go.RowKit

structure AndGood (n : Int) (gs : List (Int × Int)) (r : Gm.Res) : Prop where
  err : r.2.2 = 0
  ins : r.1.1 = n
  right : Gm.rightB n r.1.2 = true
  lit : Gm.litB n r.1.2.length r.2.1 = true
  grow : r.1.2.length ≤ gs.length + 1
  pre : ∃ t, r.1.2 = gs ++ t
structure IteGood (n : Int) (gs : List (Int × Int)) (r : Gm.Res) : Prop where
  err : r.2.2 = 0
  ins : r.1.1 = n
  right : Gm.rightB n r.1.2 = true
  lit : Gm.litB n r.1.2.length r.2.1 = true
  grow : r.1.2.length ≤ gs.length + 3
  pre : ∃ t, r.1.2 = gs ++ t
end Go.Proofs.YtdnbndknfifmgaaGreatDoor
/- Made: a graph by numbers. -/
namespace Go.Proofs.YtdnbndknfifmgaaGreatDoor
open Go.RowKit

/-- The slice at A holds the numbers zs. -/
def Us (w : World) (B : Nat) (A : Option Addr) (zs : List Int) : Prop :=
  ∀ k (hk : k < zs.length), ∃ b off, A = some ⟨b, off, none⟩ ∧ b < B ∧ w.cell? ⟨b, off + k, none⟩ = some (.int .u16 zs[k]) ∧ 0 ≤ zs[k] ∧ zs[k] ≤ 65535
theorem Us.below {w w' : World} {B C : Nat} {A : Option Addr} {zs : List Int} (h : Us w B A zs) (hb : Below C w w') (hB : B ≤ C) : Us w' B A zs := by
  intro k hk
  obtain ⟨b, off, rfl, hlt, h1, h2⟩ := h k hk
  exact ⟨b, off, rfl, hlt, (hb.cell (p := ⟨b, _, none⟩) (Nat.lt_of_lt_of_le hlt hB)).trans h1, h2⟩
theorem ixU (sb off N c r : Nat) (_hm : N ≤ 9223372036854775807) (hr : r < N) (w : World) : (Instr.indexAt 34 (.slice (some ⟨sb, off, none⟩) N c) (.int .i64 (r : Int))).run Tryz.prog w = .ok (.pointer (some ⟨sb, off + r, none⟩)) w := by go_simp

/-- A graph of n inputs by numbers: what is known of it. -/
structure Good (n : Int) (gs : List (Int × Int)) (k : Nat) (last : Int) : Prop where
  right : Gm.rightB n gs = true
  few : gs.length ≤ k
  wf : Wf gs
  lit : Gm.litB n gs.length last = true
theorem Good.start {n : Int} (h0 : 0 ≤ n) (h1 : n ≤ 6) : Good n [] 0 1 := by
  refine ⟨?_, by simp, wf_nil, ?_⟩
  · simp [Gm.rightB, Gm.fitB, Gm.ordB, Gm.nodB]; omega
  · simp [Gm.litB]; omega
/-- What Made keeps in its boxes. -/
structure MInv (w wr : World) (n : Int) (A : Option Addr) (c : Nat) (gs : List (Int × Int)) : Prop where
  low : Below w.heap.size w wr
  d0 : wr.cell? ⟨w.heap.size + 1, 0, none⟩ = some (.int .i64 n)
  d1 : wr.cell? ⟨w.heap.size + 1, 1, none⟩ = some (.slice A gs.length c)
  e0 : wr.cell? ⟨w.heap.size, 0, none⟩ = some (.int .i64 0)
  e1 : wr.cell? ⟨w.heap.size, 1, none⟩ = some (.slice none 0 0)
  f0 : wr.frozen? ⟨w.heap.size, 0, none⟩ = false
  f1 : wr.frozen? ⟨w.heap.size, 1, none⟩ = false
  g0 : wr.frozen? ⟨w.heap.size + 1, 0, none⟩ = false
  g1 : wr.frozen? ⟨w.heap.size + 1, 1, none⟩ = false
  sz : w.heap.size + 1 < wr.heap.size
  gr : Gr wr wr.heap.size A gs
  sep : Sep 0 (w.heap.size + 2) A
theorem MInv.below {w wr w' : World} {n : Int} {A : Option Addr} {c : Nat} {gs : List (Int × Int)} (h : MInv w wr n A c gs) (hb : Below wr.heap.size wr w') : MInv w w' n A c gs := by
  have hs := h.sz
  have hc : ∀ b i, b < w.heap.size + 2 → w'.cell? ⟨b, i, none⟩ = wr.cell? ⟨b, i, none⟩ := fun b i hlt => hb.cell (p := ⟨b, i, none⟩) (by simp; omega)
  have hf : ∀ b i, b < w.heap.size + 2 → w'.frozen? ⟨b, i, none⟩ = wr.frozen? ⟨b, i, none⟩ := fun b i hlt => hb.frozen (p := ⟨b, i, none⟩) (by simp; omega)
  exact ⟨h.low.trans (hb.mono h.low.size), (hc _ _ (by omega)).trans h.d0, (hc _ _ (by omega)).trans h.d1, (hc _ _ (by omega)).trans h.e0, (hc _ _ (by omega)).trans h.e1, (hf _ _ (by omega)).trans h.f0, (hf _ _ (by omega)).trans h.f1, (hf _ _ (by omega)).trans h.g0, (hf _ _ (by omega)).trans h.g1,
    Nat.lt_of_lt_of_le hs hb.size, (h.gr.below hb (Nat.le_refl _)).more hb.size, h.sep⟩
theorem MInv.drewN {w wr : World} {n : Int} {A : Option Addr} {c : Nat} {gs : List (Int × Int)} (h : MInv w wr n A c gs) (q : Nat) : MInv w (wr.drewN q) n A c gs :=
  ⟨below_drewN h.low q, h.d0, h.d1, h.e0, h.e1, h.f0, h.f1, h.g0, h.g1, h.sz, h.gr, h.sep⟩
theorem MInv.put {w wr : World} {n : Int} {A A' : Option Addr} {c c' : Nat} {gs gs' : List (Int × Int)} (h : MInv w wr n A c gs) (hG : Gr wr wr.heap.size A' gs') (hs : Sep 0 (w.heap.size + 2) A') :
    MInv w ((wr.setCell ⟨w.heap.size + 1, 0, none⟩ (.int .i64 n)).setCell ⟨w.heap.size + 1, 1, none⟩ (.slice A' gs'.length c')) n A' c' gs' := by
  have hne : ∀ ad, A' = some ad → ad.block ≠ w.heap.size + 1 := hs.ne (Nat.zero_le _) (by omega)
  refine ⟨(h.low.setCell (by simp) _).setCell (by simp) _, ?_, ?_, keep2 h.e0 (by omega), keep2 h.e1 (by omega), by simpa using h.f0, by simpa using h.f1, by simpa using h.g0, by simpa using h.g1, by simpa using h.sz, ?_, hs⟩
  · exact (World.cell?_setCell_other _ _ _ _ (by simp)).trans (World.cell?_setCell_same _ _ _ h.d0)
  · exact World.cell?_setCell_same _ _ _ ((World.cell?_setCell_other _ _ _ _ (by simp)).trans h.d1)
  · have := (hG.set (p := ⟨w.heap.size + 1, 0, none⟩) hne (.int .i64 n)).set (p := ⟨w.heap.size + 1, 1, none⟩) hne (.slice A' gs'.length c')
    simpa using this
theorem MInv.drew {w wr : World} {n : Int} {A : Option Addr} {c : Nat} {gs : List (Int × Int)} (h : MInv w wr n A c gs) : MInv w wr.drew n A c gs :=
  ⟨h.low.drew, h.d0, h.d1, h.e0, h.e1, h.f0, h.f1, h.g0, h.g1, h.sz, h.gr, h.sep⟩
end Go.Proofs.YtdnbndknfifmgaaGreatDoor
/- The rows over numbers: how their slice is opened. -/
namespace Go.Proofs.YtdnbndknfifmgaaGreatDoor
open Go.ChangeShapes Go.WideShapes Go.ChangeAt Go.RowKit Go.Deep Go.Joins Go.WideElems

theorem Tryz.laid2 : laidOutB Tryz.prog = true := by kernel_rfl
section
variable {H : Type} {enc : TypeId × Value → H} {W : World} {base : Nat} {spare : Nat → Bool} {held : Bool}
end

end Go.Proofs.YtdnbndknfifmgaaGreatDoor
