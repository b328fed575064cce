/- Lists that are finished, while Made goes on. -/
import Derived.Test.YtpejilhdhkmcjaaGreatDoorJaAl
import Derived.Test.YtpejilhdhkmcjaaGreatDoorJaar
import Derived.Deep.DeepCutAuto
import Derived.Test.YtpejilhdhkmcjaaGreatDoorJabp
import Derived.Test.YtpejilhdhkmcjaaGreatDoorJabq
import Derived.Test.YtpejilhdhkmcjaaGreatDoorJabx
import Derived.Test.YtpejilhdhkmcjaaGreatDoorJaap
namespace Go.Proofs.YtpejilhdhkmcjaaGreatDoor
open Go.RowKit

/-- A row of the call's own that is finished: it lies from base on, below hi. -/
structure RowIn (V : World) (base hi : Nat) (e : TypeId) (size : Nat) (A : Option Addr) (n c : Nat) (xs : List Value) : Prop where
 row : V.ownsRow base e size (.slice A n c) n xs
 top : ∀ ad, A = some ad → ad.block < hi
def qName : Nm := (108, 0, ⟨#[113]⟩)
def txt3 (k : Nat) : ByteArray := if k = 0 then ⟨#[111, 117, 116]⟩ else if k = 1 then ⟨#[108, 49]⟩ else ⟨#[97, 45, 98]⟩
def NamesOk (L : Nat) (ns : List Nm) : Prop := ∃ ns0 : List Nm, (ns0 = [] ∨ ns0 = [qName]) ∧ (ns = ns0 ∨ (0 < L ∧ ∃ k, k < 3 ∧ ns = ns0 ++ [(111, (L : Int) - 1, txt3 k)]))
end Go.Proofs.YtpejilhdhkmcjaaGreatDoor
/- Made of layer 4: from its names on. -/
namespace Go.Proofs.YtpejilhdhkmcjaaGreatDoor
open Go.RowKit
end Go.Proofs.YtpejilhdhkmcjaaGreatDoor
/- What Made of layer 4 gives: a circuit that may be, in memory of its own. -/
namespace Go.Proofs.YtpejilhdhkmcjaaGreatDoor
open Go.RowKit

/-- What is so of a circuit that Made gives. -/
structure MadeC (c : Cir) : Prop where
 right : Cm.rightC c = true
 n0 : 0 ≤ c.n
 n3 : c.n ≤ 3
 l1 : 1 ≤ c.ls.length
 l3 : c.ls.length ≤ 3
 g40 : c.gs.length ≤ 40
 o3 : c.os.length ≤ 3
 b3 : c.bs.length ≤ 3
 c3 : c.cs.length ≤ 3
 f3 : c.fs.length ≤ 3
 names : NamesOk c.os.length c.ns
end Go.Proofs.YtpejilhdhkmcjaaGreatDoor
/- Made of layer 4: the way to the graph. -/
namespace Go.Proofs.YtpejilhdhkmcjaaGreatDoor
open Go.RowKit

end Go.Proofs.YtpejilhdhkmcjaaGreatDoor
/- AagBack, walked. -/
namespace Go.Proofs.YtpejilhdhkmcjaaGreatDoor
open Go.RowKit

theorem CirM.on {w w' : World} {c : Cir} (h : CirM w w.heap.size c) (hb : Below w.heap.size w w') : CirM w' w'.heap.size c := (h.below hb (Nat.le_refl _)).more hb.size
end Go.Proofs.YtpejilhdhkmcjaaGreatDoor
/- AagPrint, walked: circuits that came in, whose names are not too long. -/
namespace Go.Proofs.YtpejilhdhkmcjaaGreatDoor
open Go.RowKit

theorem print_len2 {c : Cir} (h : Ag.PrintOk c) (m : Nat) (hl : c.ns.length ≤ 60) (hm : ∀ x ∈ c.ns, x.2.2.size ≤ m) : (Ag.printS c).length ≤ 200000 + 60 * (9 + m) := by
 have h0 := h.n0
 have h1 := h.all
 have h3 := h.o
 have h4 := h.b
 have h5 := h.c_
 have h6 := h.f
 have l1 := Ag.lineOf_len (Ag.sizes c) (fun x hx => by have := Ag.sizes_facts h x hx; omega)
 have e1 : (Ag.sizes c).length = 9 := rfl
 have l2 := Ag.ins_len c.n.toNat 0 (by omega)
 have l3 := Ag.lats_len true c.ls c.n.toNat (by omega) h.ls
 have l4 := Ag.col_len c.os h.os
 have l5 := Ag.col_len c.bs h.bs
 have l6 := Ag.col_len c.cs h.cs
 have l7 := Ag.col_len c.fs h.fs
 have l8 := Ag.gat_len c.gs (c.n.toNat + c.ls.length) (by omega) h.gs
 have l9 := Ag.names_len c.ns h.ns m hm
 have l10 : (9 + m) * c.ns.length ≤ 60 * (9 + m) := by
  rw [Nat.mul_comm]
  exact Nat.mul_le_mul_right _ hl
 simp only [Ag.printS, Ag.sigsP, Ag.aagW, List.length_append, List.length_cons, List.length_nil]
 omega
set_option maxRecDepth 100000 in
set_option maxHeartbeats 8000000 in
theorem aagPrint_walk (c : Cir) {B : Nat} (w : World) (hM : CirM w w.heap.size c) (hO : CirO c) (hS : ∀ x ∈ c.ns, x.2.2.size ≤ 1048576) (hA : Amb B w) :
  Calls Tryz.prog 4 #[.agg #[.int .i64 c.n, .slice c.aL c.ls.length c.cL, .slice c.aG c.gs.length c.cG, .slice c.aO c.os.length c.cO, .slice c.aB c.bs.length c.cB, .slice c.aC c.cs.length c.cC, .slice c.aF c.fs.length c.cF, .slice c.aN c.ns.length c.cN]] w fun e w' => e = .returned (.bool true) ∧ Below w.heap.size w w' := by
 have hbx := Blk.new w 29 #[.int .i64 c.n, .slice c.aL c.ls.length c.cL, .slice c.aG c.gs.length c.cG, .slice c.aO c.os.length c.cO, .slice c.aB c.bs.length c.cB, .slice c.aC c.cs.length c.cC, .slice c.aF c.fs.length c.cF, .slice c.aN c.ns.length c.cN]
 have lo := lowAlloc w (Obj.cells #[.int .i64 c.n, .slice c.aL c.ls.length c.cL, .slice c.aG c.gs.length c.cG, .slice c.aO c.os.length c.cO, .slice c.aB c.bs.length c.cB, .slice c.aC c.cs.length c.cC, .slice c.aF c.fs.length c.cF, .slice c.aN c.ns.length c.cN] 29)
 have hM1 := hM.on lo
 have hA1 := hA.on (lo.mono hA.le)
 clear hM
 have hn := hO.hn
 have hml : maxLen = 9223372036854775807 := by decide
 have m1 := hO.ml
 have m2 := hO.mg
 have m3 := hO.mn
 rw [hml] at m1 m2 m3
 have HN0 := Lib.hid hn
 clear hml hn
 go_enter Tryz.func4, Tryz.ntmps4
 go_upto_region 1 with fail
 generalize w.alloc (Obj.cells #[.int .i64 c.n, .slice c.aL c.ls.length c.cL, .slice c.aG c.gs.length c.cG, .slice c.aO c.os.length c.cO, .slice c.aB c.bs.length c.cB, .slice c.aC c.cs.length c.cC, .slice c.aF c.fs.length c.cF, .slice c.aN c.ns.length c.cN] 29) = W at *
 have HAW := Lib.hid (awake5_any B W hA1)
 have c0 := hbx.cell 0; have c1 := hbx.cell 1; have c2 := hbx.cell 2; have c3 := hbx.cell 3; have c4 := hbx.cell 4; have c5 := hbx.cell 5; have c6 := hbx.cell 6; have c7 := hbx.cell 7; simp only [zD, zE, zF] at c0 c1 c2 c3 c4 c5 c6 c7
 by_cases hg : 60 < c.gs.length
 ·
  have d1 : decide ((60 : Int) < (c.gs.length : Int)) = true := decide_eq_true (by omega)
  go_wp2_with fail
  refine HAW.out.mono ?_
  rintro e w5 ⟨rfl, hb5⟩
  have lo5 := lo.trans (hb5.mono lo.size)
  go_wp2
  go_ret
  exact ⟨rfl, lo5⟩
 have d1 : decide ((60 : Int) < (c.gs.length : Int)) = false := decide_eq_false (by omega)
 by_cases hl : 60 < c.ls.length
 ·
  have d2 : decide ((60 : Int) < (c.ls.length : Int)) = true := decide_eq_true (by omega)
  go_wp2_with fail
  refine HAW.out.mono ?_
  rintro e w5 ⟨rfl, hb5⟩
  have lo5 := lo.trans (hb5.mono lo.size)
  go_wp2
  go_ret
  exact ⟨rfl, lo5⟩
 have d2 : decide ((60 : Int) < (c.ls.length : Int)) = false := decide_eq_false (by omega)
 by_cases hnn : 60 < c.ns.length
 ·
  have d3 : decide ((60 : Int) < (c.ns.length : Int)) = true := decide_eq_true (by omega)
  go_wp2_with fail
  refine HAW.out.mono ?_
  rintro e w5 ⟨rfl, hb5⟩
  have lo5 := lo.trans (hb5.mono lo.size)
  go_wp2
  go_ret
  exact ⟨rfl, lo5⟩
 have d3 : decide ((60 : Int) < (c.ns.length : Int)) = false := decide_eq_false (by omega)
 by_cases hni : 60 < c.n
 ·
  have d4 : decide ((60 : Int) < c.n) = true := decide_eq_true hni
  go_wp2_with fail
  refine HAW.out.mono ?_
  rintro e w5 ⟨rfl, hb5⟩
  have lo5 := lo.trans (hb5.mono lo.size)
  go_wp2
  go_ret
  exact ⟨rfl, lo5⟩
 have d4 : decide ((60 : Int) < c.n) = false := decide_eq_false hni
 have hW : CirW c := ⟨hO.hn, hO.hl, hO.hg, hO.ho, hO.hb, hO.hc, hO.hf, hO.hk, by omega, by omega, hO.lo, hO.lb, hO.lc, hO.lf, by omega⟩
 have hcap := hO.cap
 have hlen : Cm.rightC c = true → (Ag.printS c).length ≤ 100000000 := fun h => by
  have := print_len2 (Ag.right_ok h) 1048576 (by omega) hS
  omega
 have HPR : Hid (∃ (S : ByteArray) (k : Int), ∀ V, Below W.heap.size W V → (Calls Tryz.prog 13 #[.agg #[.int .i64 c.n, .slice c.aL c.ls.length c.cL, .slice c.aG c.gs.length c.cG, .slice c.aO c.os.length c.cO, .slice c.aB c.bs.length c.cB, .slice c.aC c.cs.length c.cC, .slice c.aF c.fs.length c.cF, .slice c.aN c.ns.length c.cN]] V fun e w' => e = .returned (.tuple #[.string S, .int .i64 k]) ∧ Below V.heap.size V w') ∧ (Calls Tryz.prog 14 #[.agg #[.int .i64 c.n, .slice c.aL c.ls.length c.cL, .slice c.aG c.gs.length c.cG, .slice c.aO c.os.length c.cO, .slice c.aB c.bs.length c.cB, .slice c.aC c.cs.length c.cC, .slice c.aF c.fs.length c.cF, .slice c.aN c.ns.length c.cN]] V fun e w' => e = .returned (.tuple #[.string S, .int .i64 k]) ∧ Below V.heap.size V w')) := by
  refine ⟨if Cm.rightC c = true then bsv (Ag.printS c) else ⟨#[]⟩, if Cm.rightC c = true then 0 else 1, fun V hb => ⟨?_, ?_⟩⟩
  ·
   refine (aagPrint_any c B V (hM1.on hb) hW hcap (fun h => by have := hlen h; omega) (hA1.on (hb.mono hA1.le))).mono fun e w' ⟨h1, h2⟩ => ⟨?_, h2⟩
   rw [h1]
   split <;> rfl
  refine (rprint_text c V (hM1.on hb) hW (fun h => by have := hlen h; omega)).mono fun e w' ⟨h1, h2⟩ => ⟨?_, h2⟩
  rw [h1]
  split <;> rfl
 obtain ⟨S, k, hP⟩ := HPR.out
 have HP := Lib.hid hP
 clear HPR hP hlen hW hcap hM1 hS hO m1 m2 m3 hg hl hnn hni HAW
 go_wp2_with fail
 refine ((HP.out W (Below.refl _ _)).1).mono ?_
 rintro e w2 ⟨rfl, lx⟩
 clear c0 c1 c2 c3 c4 c5 c6 c7
 have hbx2 := hbx.below lx hbx.lt
 have c0 := hbx2.cell 0; have c1 := hbx2.cell 1; have c2 := hbx2.cell 2; have c3 := hbx2.cell 3; have c4 := hbx2.cell 4; have c5 := hbx2.cell 5; have c6 := hbx2.cell 6; have c7 := hbx2.cell 7; simp only [zD, zE, zF] at c0 c1 c2 c3 c4 c5 c6 c7
 clear hbx2
 go_wp2_with fail
 refine ((HP.out w2 lx).2).mono ?_
 rintro e w3 ⟨rfl, hb3⟩
 clear c0 c1 c2 c3 c4 c5 c6 c7
 have lx3 := lx.trans (hb3.mono lx.size)
 have HAW := Lib.hid (awake5_any B w3 (hA1.on (lx3.mono hA1.le)))
 have hs1 : (S == S) = true := beq_self_eq_true _
 have hs2 : decide (S = S) = true := decide_eq_true rfl
 have hs3 : (k == k) = true := beq_self_eq_true _
 go_wp2_with fail
 refine HAW.out.mono ?_
 rintro e w5 ⟨rfl, hb5⟩
 have lz := lo.trans ((lx3.trans (hb5.mono lx3.size)).mono lo.size)
 go_wp2
 go_ret
 exact ⟨rfl, lz⟩
end Go.Proofs.YtpejilhdhkmcjaaGreatDoor
