/- fits, inner; the closure of driven; ContainsFunc over ints. -/
import Derived.Test.YtpejilhdhkmcjaaGreatDoorJaAl
import Derived.Test.YtpejilhdhkmcjaaGreatDoorJaah
namespace Go.Proofs.YtpejilhdhkmcjaaGreatDoor
open Go.RowKit

namespace Cm
/-- The numbers of signals are within the limits. -/
def fitsB (c : Cir) : Bool := decide (0 ≤ c.n) && decide (c.n ≤ 2000) && decide (c.ls.length ≤ 2000) && decide (c.os.length ≤ 2000) && decide (c.bs.length ≤ 2000) && decide (c.cs.length ≤ 2000) && decide (c.fs.length ≤ 2000)
def okN (c : Cir) (i : Nat) : Bool := decide (0 ≤ numS c (kindAt i)) && decide (numS c (kindAt i) ≤ 2000)
theorem fits_all (c : Cir) : fitsB c = (List.range 6).all (okN c) := by
 simp only [List.range, List.range.loop, List.all_cons, List.all_nil, okN, numS, kindAt, lstS, fitsB, List.getD_cons_zero, List.getD_cons_succ]
 simp
 rw [Bool.eq_iff_iff]
 simp
 omega
end Cm
theorem look_kind (w : World) (b : Nat) (c : Cir) (k : Nat) (h : k < 6) (hb : Hp w b (cmap (numL c) 6)) :
  (Instr.lookup 108 (.map (some b)) (.int .i32 (Cm.kindAt k)) false).run Tryz.prog w = .ok (.int .i64 (Cm.numS c (Cm.kindAt k))) w :=
 look_any w b _ 6 _ _ hb (Or.inr ⟨k, find_old _ k h⟩)
/-- What a loop over the kinds keeps, with the map. -/
structure KL (w wr : World) (c : Cir) (b ib : Nat) (k : Nat) : Prop where
 low : Below w.heap.size w wr
 box : Blk wr w.heap.size 29 #[.int .i64 c.n, .slice c.aL c.ls.length c.cL, .slice c.aG c.gs.length c.cG, .slice c.aO c.os.length c.cO, .slice c.aB c.bs.length c.cB, .slice c.aC c.cs.length c.cC, .slice c.aF c.fs.length c.cF, .slice c.aN c.ns.length c.cN]
 map : Hp wr b (cmap (numL c) 6)
 it : Hp wr ib (.stringIter Cm.kinds k)
 lb : w.heap.size < b
 li : b < ib

set_option maxRecDepth 100000 in
set_option maxHeartbeats 4000000 in
theorem fits4_any (c : Cir) (w : World) : Calls Tryz.prog 48 #[.agg #[.int .i64 c.n, .slice c.aL c.ls.length c.cL, .slice c.aG c.gs.length c.cG, .slice c.aO c.os.length c.cO, .slice c.aB c.bs.length c.cB, .slice c.aC c.cs.length c.cC, .slice c.aF c.fs.length c.cF, .slice c.aN c.ns.length c.cN]] w fun e w' => e = .returned (.bool (Cm.fitsB c)) ∧ Below w.heap.size w w' := by
 have hbx := boxed w c
 have c0 := hbx.cell 0
 have c1 := hbx.cell 1
 have c2 := hbx.cell 2
 have c3 := hbx.cell 3
 have c4 := hbx.cell 4
 have c5 := hbx.cell 5
 have c6 := hbx.cell 6
 have c7 := hbx.cell 7
 simp only [zD, zE, zF] at c0 c1 c2 c3 c4 c5 c6 c7
 rw [Cm.fits_all]
 obtain ⟨z, hz⟩ : ∃ z, z = (List.range 6).all (Cm.okN c) := ⟨_, rfl⟩
 rw [← hz]
 have HZ := Lib.hid hz
 clear hz
 go_enter Tryz.func48, Tryz.ntmps48
 go_wp2_with fail
 refine (counts_any c _).mono ?_
 rintro e w1 ⟨b, rfl, hb, hmp, hlo⟩
 replace hbx := hbx.below hlo (by simp)
 have hbs := hmp.lt
 simp at hb
 have hst : KL w (w1.iter Cm.kinds 0) c b w1.heap.size 0 := by
  refine ⟨((lowAlloc w _).trans (hlo.mono (by simp))).alloc (by omega) _, hbx.alloc _, hmp.alloc _, Hp.new w1 _, by omega, hbs⟩
 have HST := Lib.hid hst
 clear hst c0 c1 c2 c3 c4 c5 c6 c7 hbx hmp hlo
 go_wp2
 go_loopw [5] (fun _ wr => ∃ k : Nat, k ≤ 6 ∧ (List.range k).all (Cm.okN c) = true ∧ KL w wr c b w1.heap.size k) (fun _ wr => 6 - iterPos wr w1.heap.size)
 case atStart => exact ⟨0, by omega, rfl, HST.out⟩
 obtain ⟨k, hk, hal, hi⟩ := hrel
 have hip := hi.it.pos
 by_cases hlt : k < 6
 ·
  obtain ⟨wn, hnx, hit, hgr⟩ := next_kind wr _ k hi.it hlt
  have hls := hi.low.size
  have lo := below_grown hi.low hgr (by omega) hi.low.size
  have hbx := hi.box.grown hgr (fun e => by injection e with e; omega)
  have hmp := hi.map.grown hgr (fun e => by injection e with e; omega)
  have hlk := look_kind wn b c k hlt hmp
  have hfin : KL w wn c b w1.heap.size (k + 1) := ⟨lo, hbx, hmp, hit, hi.lb, hi.li⟩
  have hall : (List.range (k + 1)).all (Cm.okN c) = Cm.okN c k := by rw [List.range_succ, List.all_append, hal]; simp
  have hno : Cm.okN c k = false → (List.range 6).all (Cm.okN c) = false := by
   intro h
   rw [List.all_eq_false]
   exact ⟨k, by simpa using hlt, by simp [h]⟩
  have hok : Cm.okN c k = (decide (0 ≤ Cm.numS c (Cm.kindAt k)) && decide (Cm.numS c (Cm.kindAt k) ≤ 2000)) := rfl
  have HIP := Lib.hid hip
  have HALL := Lib.hid hall
  have HNO := Lib.hid hno
  have HOK := Lib.hid hok
  clear hip hall hno hok hal hgr hbx hmp
  generalize Cm.numS c (Cm.kindAt k) = x at *
  by_cases h0 : x < 0
  ·
   have HF := Lib.hid (HNO.out (by rw [HOK.out, Bool.and_eq_false_iff]; simp only [decide_eq_false_iff_not]; omega))
   go_wp2
   go_ret
   exact ⟨ret_bool (HZ.out.trans HF.out).symm, lo⟩
  by_cases h1 : 2000 < x
  ·
   have HF := Lib.hid (HNO.out (by rw [HOK.out, Bool.and_eq_false_iff]; simp only [decide_eq_false_iff_not]; omega))
   go_wp2
   go_ret
   exact ⟨ret_bool (HZ.out.trans HF.out).symm, lo⟩
  have HT : Hid ((List.range (k + 1)).all (Cm.okN c) = true) := HALL.out.trans (by rw [HOK.out]; simp; omega)
  go_wp2
  go_roundw
  case rel => exact ⟨k + 1, by omega, HT.out, hfin⟩
  case measure => rw [HIP.out, hfin.it.pos]; omega
 obtain rfl : k = 6 := by omega
 have hnx := next_kend wr _ hi.it
 have lo := hi.low
 have HA := Lib.hid hal
 clear hal hi hip
 go_wp2
 go_ret
 exact ⟨ret_bool (HZ.out.trans HA.out).symm, lo⟩

set_option maxRecDepth 100000 in
set_option maxHeartbeats 4000000 in
theorem inner_any (c : Cir) (w : World) : Calls Tryz.prog 50 #[.agg #[.int .i64 c.n, .slice c.aL c.ls.length c.cL, .slice c.aG c.gs.length c.cG, .slice c.aO c.os.length c.cO, .slice c.aB c.bs.length c.cB, .slice c.aC c.cs.length c.cC, .slice c.aF c.fs.length c.cF, .slice c.aN c.ns.length c.cN]] w fun e w' => e = .returned (.agg #[.int .i64 (wrap64 (c.n + c.ls.length)), .slice c.aG c.gs.length c.cG]) ∧ Below w.heap.size w w' := by
 have HW := Lib.hid (fun V => width_any c V)
 have hbx := (boxed w c).alloc (Obj.cells #[.int .i64 0, .slice none 0 0] 64)
 have hgx : Blk ((w.alloc (Obj.cells #[.int .i64 c.n, .slice c.aL c.ls.length c.cL, .slice c.aG c.gs.length c.cG, .slice c.aO c.os.length c.cO, .slice c.aB c.bs.length c.cB, .slice c.aC c.cs.length c.cC, .slice c.aF c.fs.length c.cF, .slice c.aN c.ns.length c.cN] 29)).alloc (Obj.cells #[.int .i64 0, .slice none 0 0] 64)) (w.heap.size + 1) 64 #[.int .i64 0, .slice none 0 0] := by
  have := Blk.new (w.alloc (Obj.cells #[.int .i64 c.n, .slice c.aL c.ls.length c.cL, .slice c.aG c.gs.length c.cG, .slice c.aO c.os.length c.cO, .slice c.aB c.bs.length c.cB, .slice c.aC c.cs.length c.cC, .slice c.aF c.fs.length c.cF, .slice c.aN c.ns.length c.cN] 29)) 64 #[.int .i64 0, .slice none 0 0]
  simpa using this
 have lo := (lowAlloc w (Obj.cells #[.int .i64 c.n, .slice c.aL c.ls.length c.cL, .slice c.aG c.gs.length c.cG, .slice c.aO c.os.length c.cO, .slice c.aB c.bs.length c.cB, .slice c.aC c.cs.length c.cC, .slice c.aF c.fs.length c.cF, .slice c.aN c.ns.length c.cN] 29)).alloc (by simp) (Obj.cells #[.int .i64 0, .slice none 0 0] 64)
 generalize wrap64 (c.n + c.ls.length) = x at *
 go_enter Tryz.func50, Tryz.ntmps50
 go_upto_region 1 with fail
 generalize ((w.alloc (Obj.cells #[.int .i64 c.n, .slice c.aL c.ls.length c.cL, .slice c.aG c.gs.length c.cG, .slice c.aO c.os.length c.cO, .slice c.aB c.bs.length c.cB, .slice c.aC c.cs.length c.cC, .slice c.aF c.fs.length c.cF, .slice c.aN c.ns.length c.cN] 29)).alloc (Obj.cells #[.int .i64 0, .slice none 0 0] 64)) = W at *
 have hz1 := hgx.lt
 have HK : Hid (∀ V, Below (w.heap.size + 1) W V → V.cell? ⟨w.heap.size, 0, none⟩ = some (.int .i64 c.n) ∧ V.cell? ⟨w.heap.size, 1, none⟩ = some (.slice c.aL c.ls.length c.cL) ∧ V.cell? ⟨w.heap.size, 2, none⟩ = some (.slice c.aG c.gs.length c.cG) ∧ V.cell? ⟨w.heap.size, 3, none⟩ = some (.slice c.aO c.os.length c.cO) ∧ V.cell? ⟨w.heap.size, 4, none⟩ = some (.slice c.aB c.bs.length c.cB) ∧ V.cell? ⟨w.heap.size, 5, none⟩ = some (.slice c.aC c.cs.length c.cC) ∧ V.cell? ⟨w.heap.size, 6, none⟩ = some (.slice c.aF c.fs.length c.cF) ∧ V.cell? ⟨w.heap.size, 7, none⟩ = some (.slice c.aN c.ns.length c.cN)) := by
  intro V hb
  have h := hbx.below hb (by omega)
  exact ⟨h.cell 0, h.cell 1, h.cell 2, h.cell 3, h.cell 4, h.cell 5, h.cell 6, h.cell 7⟩
 have lx0 := Below.refl (w.heap.size + 1) W
 have HGX := Lib.hid hgx
 clear hbx hgx
 go_region_held3 (fun V => V.cell? ⟨w.heap.size, 0, none⟩ = some (.int .i64 c.n) ∧ V.cell? ⟨w.heap.size, 1, none⟩ = some (.slice c.aL c.ls.length c.cL) ∧ V.cell? ⟨w.heap.size, 2, none⟩ = some (.slice c.aG c.gs.length c.cG) ∧ V.cell? ⟨w.heap.size, 3, none⟩ = some (.slice c.aO c.os.length c.cO) ∧ V.cell? ⟨w.heap.size, 4, none⟩ = some (.slice c.aB c.bs.length c.cB) ∧ V.cell? ⟨w.heap.size, 5, none⟩ = some (.slice c.aC c.cs.length c.cC) ∧ V.cell? ⟨w.heap.size, 6, none⟩ = some (.slice c.aF c.fs.length c.cF) ∧ V.cell? ⟨w.heap.size, 7, none⟩ = some (.slice c.aN c.ns.length c.cN))
  (first | exact HK.out _ lx0 | exact HK.out _ lx0.drew | exact HK.out _ lx6 | exact HK.out _ lx6.drew | exact HK.out _ ((lx6.setCell (Nat.le_refl _) _).setCell (Nat.le_refl _) _))
  (first | (go_at_call 74; refine (HW.out _).mono ?_; rintro e w2 ⟨rfl, hb⟩; have lx6 := lx0.drew.trans (hb.mono (Nat.le_of_lt hz1)); have hg6 := (show Blk W.drew (w.heap.size + 1) 64 #[.int .i64 0, .slice none 0 0] from HGX.out).below hb hz1; have x0 := hg6.cell 0; have x1 := hg6.cell 1; have y0 := hg6.frozen 0; have y1 := hg6.frozen 1))
 simp only [zD, zE, zF] at x0 x1
 go_wp2
 have hbf : Below w.heap.size w ((w2.setCell ⟨w.heap.size + 1, 0, none⟩ (.int .i64 x)).setCell ⟨w.heap.size + 1, 1, none⟩ (.slice c.aG c.gs.length c.cG)) :=
  ((lo.trans (lx6.mono (Nat.le_succ _))).setCell (by simp) _).setCell (by simp) _
 have r0 : ((w2.setCell ⟨w.heap.size + 1, 0, none⟩ (.int .i64 x)).setCell ⟨w.heap.size + 1, 1, none⟩ (.slice c.aG c.gs.length c.cG)).cell? ⟨w.heap.size + 1, 0, none⟩ = some (.int .i64 x) :=
  (World.cell?_setCell_other _ _ _ _ (by simp)).trans (World.cell?_setCell_same _ _ _ x0)
 have r1 : ((w2.setCell ⟨w.heap.size + 1, 0, none⟩ (.int .i64 x)).setCell ⟨w.heap.size + 1, 1, none⟩ (.slice c.aG c.gs.length c.cG)).cell? ⟨w.heap.size + 1, 1, none⟩ = some (.slice c.aG c.gs.length c.cG) :=
  World.cell?_setCell_same _ _ _ ((World.cell?_setCell_other _ _ _ _ (by simp)).trans x1)
 exact bodyPost_ret (v := .agg #[.int .i64 x, .slice c.aG c.gs.length c.cG]) (by simp [results, Tryz.results50, go_sem, r0, r1]) rfl ⟨rfl, hbf⟩

theorem stray_any (gb : Nat) (N : Int) (A : Option Addr) (l q : Nat) (x : Int) (w : World) (hl : l ≤ 1000000) (h0 : w.cell? ⟨gb, 0, none⟩ = some (.int .i64 N)) (h1 : w.cell? ⟨gb, 1, none⟩ = some (.slice A l q)) :
  Calls Tryz.prog 76 #[.int .i64 x, .pointer (some ⟨gb, 0, none⟩)] w fun e w' => e = .returned (.bool (!Gm.litB N l x)) ∧ Below w.heap.size w w' := by
 have HL := Lib.hid (lit_any N A l q x w hl)
 have hnot : ∀ (x : Bool) (w : World), (Op.unary .not (.bool x)).run Tryz.prog w = .ok (.bool (!x)) w := fun _ _ => rfl
 go_enter Tryz.func76, Tryz.ntmps76
 go_wp2_with fail
 refine HL.out.mono ?_
 rintro e w1 ⟨rfl, hb1⟩
 go_wp2
 go_ret
 exact ⟨rfl, hb1⟩

set_option maxRecDepth 100000 in
set_option maxHeartbeats 4000000 in
theorem indexInts_any (gb : Nat) (N : Int) (A : Option Addr) (l q : Nat) (Ax : Option Addr) (cx : Nat) (xs : List Int) (w : World) (hl : l ≤ 1000000) (hxs : xs.length ≤ 1000000) (hV : Vs w w.heap.size Ax (iv xs)) (hgb : gb < w.heap.size) (h0 : w.cell? ⟨gb, 0, none⟩ = some (.int .i64 N)) (h1 : w.cell? ⟨gb, 1, none⟩ = some (.slice A l q)) :
  Calls Tryz.prog 99 #[.slice Ax xs.length cx, .func (.func 76) #[] #[.pointer (some ⟨gb, 0, none⟩)]] w fun e w' => (∃ r, e = .returned (.int .i64 r) ∧ decide (0 ≤ r) = xs.any (fun x => !Gm.litB N l x)) ∧ Below w.heap.size w w' := by
 go_enter Tryz.func99, Tryz.ntmps99
 go_wp2
 go_loopw [8] (fun i wr => ∃ k : Nat, k ≤ xs.length ∧ i = .int .i64 k ∧ (xs.take k).any (fun x => !Gm.litB N l x) = false ∧ Below w.heap.size w wr) (fun i _ => xs.length - (intOf i).toNat)
 case atStart => exact ⟨0, Nat.zero_le _, rfl, rfl, Below.refl _ _⟩
 obtain ⟨k, hk, rfl, hany, lo⟩ := hrel
 by_cases hlt : k < xs.length
 ·
  obtain ⟨b, off, hA, hbw, g1⟩ := (hV.below lo (Nat.le_refl _)) k (by simpa using hlt)
  subst hA
  have hix := ixI b off xs.length cx k hxs hlt
  have e1 : (xs.take (k + 1)).any (fun x => !Gm.litB N l x) = !Gm.litB N l xs[k] := by rw [List.take_succ_eq_append_getElem hlt, List.any_append, hany]; simp
  have e2 : Gm.litB N l xs[k] = false → xs.any (fun x => !Gm.litB N l x) = true := fun h => List.any_eq_true.2 ⟨xs[k], by simp, by simp [h]⟩
  have E1 := Lib.hid e1
  have E2 := Lib.hid e2
  have HS := Lib.hid (stray_any gb N A l q xs[k] wr hl ((lo.cell (p := ⟨gb, 0, none⟩) hgb).trans h0) ((lo.cell (p := ⟨gb, 1, none⟩) hgb).trans h1))
  have g1' : wr.cell? ⟨b, off + k, none⟩ = some (.int .i64 xs[k]) := by simpa using g1
  have HAny := Lib.hid hany
  clear e1 e2 g1 hany
  generalize xs[k] = x at *
  generalize Gm.litB N l x = z at *
  go_wp2_with fail
  refine HS.out.mono ?_
  rintro e w1 ⟨rfl, hb1⟩
  have lo1 := lo.trans (hb1.mono lo.size)
  cases z with
  | true =>
   go_wp2
   go_roundw
   case rel => exact ⟨k + 1, by omega, by go_num, by rw [E1.out]; rfl, lo1⟩
   case measure => simp [intOf]; omega
  | false =>
   go_wp2
   go_ret
   exact ⟨⟨_, rfl, by rw [E2.out trivial]; simp⟩, lo1⟩
 obtain rfl : k = xs.length := by omega
 rw [List.take_length] at hany
 have HA := Lib.hid hany
 clear hany
 go_wp2
 go_ret
 exact ⟨⟨_, rfl, by rw [HA.out]; rfl⟩, lo⟩

set_option maxHeartbeats 1000000 in
theorem containsInts_any (gb : Nat) (N : Int) (A : Option Addr) (l q : Nat) (Ax : Option Addr) (cx : Nat) (xs : List Int) (w : World) (hl : l ≤ 1000000) (hxs : xs.length ≤ 1000000) (hV : Vs w w.heap.size Ax (iv xs)) (hgb : gb < w.heap.size) (h0 : w.cell? ⟨gb, 0, none⟩ = some (.int .i64 N)) (h1 : w.cell? ⟨gb, 1, none⟩ = some (.slice A l q)) :
  Calls Tryz.prog 77 #[.slice Ax xs.length cx, .func (.func 76) #[] #[.pointer (some ⟨gb, 0, none⟩)]] w fun e w' => e = .returned (.bool (xs.any (fun x => !Gm.litB N l x))) ∧ Below w.heap.size w w' := by
 have HI := Lib.hid (indexInts_any gb N A l q Ax cx xs w hl hxs hV hgb h0 h1)
 generalize xs.any (fun x => !Gm.litB N l x) = z at *
 go_enter Tryz.func77, Tryz.ntmps77
 go_wp2_with fail
 refine HI.out.mono ?_
 rintro e w1 ⟨⟨r, rfl, hr⟩, hb1⟩
 have HR := Lib.hid hr
 clear hr
 go_wp2
 go_ret
 exact ⟨ret_bool HR.out, hb1⟩
end Go.Proofs.YtpejilhdhkmcjaaGreatDoor
/- driven; ordered. -/
namespace Go.Proofs.YtpejilhdhkmcjaaGreatDoor
open Go.RowKit

namespace Cm
def latB (N : Int) (l : Nat) (q : Int × Int) : Bool := Gm.litB N l q.1 && decide (0 ≤ q.2) && decide (q.2 ≤ 2)
def drivenB (c : Cir) : Bool := c.ls.all (latB (c.n + c.ls.length) c.gs.length) && (List.range 6).all fun i => (lstS c (kindAt i)).all (Gm.litB (c.n + c.ls.length) c.gs.length)
theorem fits_facts {c : Cir} (h : fitsB c = true) : 0 ≤ c.n ∧ c.n ≤ 2000 ∧ c.ls.length ≤ 2000 ∧ c.os.length ≤ 2000 ∧ c.bs.length ≤ 2000 ∧ c.cs.length ≤ 2000 ∧ c.fs.length ≤ 2000 := by
 simp [fitsB] at h
 omega
theorem lst_len {c : Cir} (h : fitsB c = true) (k : Int) : (lstS c k).length ≤ 2000 := by
 have := fits_facts h
 unfold lstS
 split
 ·
  omega
 split
 ·
  omega
 split
 ·
  omega
 split
 ·
  omega
 simp
theorem wrapW {c : Cir} (h : fitsB c = true) : wrap64 (c.n + c.ls.length) = c.n + c.ls.length := by
 have := fits_facts h
 unfold wrap64
 omega
theorem not_any {α : Type} (p : α → Bool) (xs : List α) : xs.any (fun x => !p x) = !xs.all p := by
 induction xs with
 | nil => rfl
 | cons x t ih => simp [ih, Bool.not_and]
end Cm
theorem CirM.lst {w : World} {B : Nat} {c : Cir} (h : CirM w B c) (k : Int) : ∃ A q, lstV c k = .slice A (Cm.lstS c k).length q ∧ Vs w B A (iv (Cm.lstS c k)) := by
 unfold lstV Cm.lstS
 split
 ·
  exact ⟨_, _, rfl, h.ho⟩
 split
 ·
  exact ⟨_, _, rfl, h.hb⟩
 split
 ·
  exact ⟨_, _, rfl, h.hc⟩
 split
 ·
  exact ⟨_, _, rfl, h.hf⟩
 exact ⟨none, 0, rfl, vs_nil⟩
/-- What driven's loops keep: the circuit's box, the graph's box. -/
structure DL (w wr : World) (c : Cir) (gb : Nat) : Prop where
 low : Below w.heap.size w wr
 box : Blk wr w.heap.size 29 #[.int .i64 c.n, .slice c.aL c.ls.length c.cL, .slice c.aG c.gs.length c.cG, .slice c.aO c.os.length c.cO, .slice c.aB c.bs.length c.cB, .slice c.aC c.cs.length c.cC, .slice c.aF c.fs.length c.cF, .slice c.aN c.ns.length c.cN]
 gx : Blk wr gb 64 #[.int .i64 (c.n + c.ls.length), .slice c.aG c.gs.length c.cG]
 lb : w.heap.size < gb
theorem DL.below {w wr w2 : World} {c : Cir} {gb : Nat} (h : DL w wr c gb) (hb : Below wr.heap.size wr w2) : DL w w2 c gb :=
 ⟨h.low.trans (hb.mono h.low.size), h.box.below hb h.box.lt, h.gx.below hb h.gx.lt, h.lb⟩

set_option maxRecDepth 100000 in
set_option maxHeartbeats 8000000 in
theorem driven_any (c : Cir) (w : World) (hM : CirM w w.heap.size c) (hW : CirW c) (hf : Cm.fitsB c = true) : Calls Tryz.prog 51 #[.agg #[.int .i64 c.n, .slice c.aL c.ls.length c.cL, .slice c.aG c.gs.length c.cG, .slice c.aO c.os.length c.cO, .slice c.aB c.bs.length c.cB, .slice c.aC c.cs.length c.cC, .slice c.aF c.fs.length c.cF, .slice c.aN c.ns.length c.cN]] w fun e w' => e = .returned (.bool (Cm.drivenB c)) ∧ Below w.heap.size w w' := by
 have hbx := boxed w c
 have c0 := hbx.cell 0
 have c1 := hbx.cell 1
 have c2 := hbx.cell 2
 have c3 := hbx.cell 3
 have c4 := hbx.cell 4
 have c5 := hbx.cell 5
 have c6 := hbx.cell 6
 have c7 := hbx.cell 7
 simp only [zD, zE, zF] at c0 c1 c2 c3 c4 c5 c6 c7
 have hff := Cm.fits_facts hf
 have HF := Lib.hid hf
 have HI := Lib.hid (inner_any c (w.alloc (Obj.cells #[.int .i64 c.n, .slice c.aL c.ls.length c.cL, .slice c.aG c.gs.length c.cG, .slice c.aO c.os.length c.cO, .slice c.aB c.bs.length c.cB, .slice c.aC c.cs.length c.cC, .slice c.aF c.fs.length c.cF, .slice c.aN c.ns.length c.cN] 29)))
 rw [Cm.wrapW hf] at HI
 have hmf : ∀ (fn : Fn) (first cap : Array Value) (w : World), (Instr.makeFunc fn first cap).run Tryz.prog w = .ok (.func fn first cap) w := fun _ _ _ _ => rfl
 have hnot : ∀ (x : Bool) (w : World), (Op.unary .not (.bool x)).run Tryz.prog w = .ok (.bool (!x)) w := fun _ _ => rfl
 obtain ⟨z, hz⟩ : ∃ z, z = Cm.drivenB c := ⟨_, rfl⟩
 rw [← hz]
 have HZ := Lib.hid hz
 clear hz hf
 have hlg := hW.lg
 go_enter Tryz.func51, Tryz.ntmps51
 go_wp2_with fail
 refine HI.out.mono ?_
 rintro e w1 ⟨rfl, hb1⟩
 have hs1 := hb1.size
 simp at hs1
 have hst : DL w (w1.alloc (Obj.cells #[.int .i64 (c.n + c.ls.length), .slice c.aG c.gs.length c.cG] 64)) c w1.heap.size :=
  ⟨((lowAlloc w _).trans (hb1.mono (by simp))).alloc (by omega) _, (hbx.below hb1 (by simp)).alloc _, Blk.new w1 _ _, by omega⟩
 clear c0 c1 c2 c3 c4 c5 c6 c7 hbx HI hb1
 go_upto_region 2 with fail
 generalize w1.alloc (Obj.cells #[.int .i64 (c.n + c.ls.length), .slice c.aG c.gs.length c.cG] 64) = V at *
 have c1 := hst.box.cell 1
 simp only [zD, zE, zF] at c1
 have HST := Lib.hid hst
 clear hst
 go_wp2
 clear c1
 go_loopw [14] (fun i wr => ∃ k : Nat, k ≤ c.ls.length ∧ i = .int .i64 k ∧ (c.ls.take k).all (Cm.latB (c.n + c.ls.length) c.gs.length) = true ∧ DL w wr c w1.heap.size) (fun i _ => c.ls.length - (intOf i).toNat)
 case atStart => exact ⟨0, Nat.zero_le _, rfl, rfl, HST.out⟩
 obtain ⟨k, hk, rfl, hall, hi⟩ := hrel
 by_cases hlt : k < c.ls.length
 ·
  obtain ⟨b, off, hA, hbw, g1, g2⟩ := (hM.hl.below hi.low (Nat.le_refl _)) k hlt
  have e1 : (c.ls.take (k + 1)).all (Cm.latB (c.n + c.ls.length) c.gs.length) = Cm.latB (c.n + c.ls.length) c.gs.length c.ls[k] := by rw [List.take_succ_eq_append_getElem hlt, List.all_append, hall]; simp
  have e2 : Cm.latB (c.n + c.ls.length) c.gs.length c.ls[k] = false → Cm.drivenB c = false := fun h => by
   have : c.ls.all (Cm.latB (c.n + c.ls.length) c.gs.length) = false := List.all_eq_false.2 ⟨c.ls[k], by simp, by simp [h]⟩
   simp only [Cm.drivenB, this, Bool.false_and]
  have E1 := Lib.hid e1
  have E2 := Lib.hid e2
  have d0 := hi.gx.cell 0
  have d1 := hi.gx.cell 1
  simp only [zD, zE, zF] at d0 d1
  have hgl := hi.gx.lt
  have HALL := Lib.hid hall
  clear e1 e2 hall
  generalize c.ls[k] = g at *
  obtain ⟨x, y⟩ := g
  simp only at g1 g2
  have hlo := hi.low
  rw [hA]
  have hi2 := hi.below (lowAlloc wr (Obj.cells #[.int .i64 x, .int .i64 y] 49))
  have HL := Lib.hid (lit_any (c.n + c.ls.length) c.aG c.gs.length c.cG x (wr.alloc (Obj.cells #[.int .i64 x, .int .i64 y] 49)) hlg)
  have hlat : Cm.latB (c.n + c.ls.length) c.gs.length (x, y) = (Gm.litB (c.n + c.ls.length) c.gs.length x && decide (0 ≤ y) && decide (y ≤ 2)) := rfl
  rw [hlat] at E1 E2
  clear hlat
  go_wp2_with fail
  refine HL.out.mono ?_
  rintro e w2 ⟨rfl, hb2⟩
  have hi3 := hi2.below hb2
  have q0 := (hb2.cell (p := ⟨wr.heap.size, 0, none⟩) (by simp)).trans (show (wr.alloc (Obj.cells #[.int .i64 x, .int .i64 y] 49)).cell? ⟨wr.heap.size, 0, none⟩ = some (.int .i64 x) by simp)
  have q1 := (hb2.cell (p := ⟨wr.heap.size, 1, none⟩) (by simp)).trans (show (wr.alloc (Obj.cells #[.int .i64 x, .int .i64 y] 49)).cell? ⟨wr.heap.size, 1, none⟩ = some (.int .i64 y) by simp)
  generalize Gm.litB (c.n + c.ls.length) c.gs.length x = t at *
  clear hi hi2 hb2 g1 g2 d0 d1
  cases t with
  | false =>
   have HN := Lib.hid (E2.out (by simp))
   go_wp2
   go_ret
   exact ⟨ret_bool (HZ.out.trans HN.out).symm, hi3.low⟩
  | true =>
   by_cases hy0 : y < 0
   ·
    have HN := Lib.hid (E2.out (by simp; omega))
    go_wp2
    go_ret
    exact ⟨ret_bool (HZ.out.trans HN.out).symm, hi3.low⟩
   by_cases hy2 : 2 < y
   ·
    have HN := Lib.hid (E2.out (by simp; omega))
    go_wp2
    go_ret
    exact ⟨ret_bool (HZ.out.trans HN.out).symm, hi3.low⟩
   have HT := Lib.hid (E1.out.trans (show (true && decide (0 ≤ y) && decide (y ≤ 2)) = true by simp; omega))
   go_wp2
   go_roundw
   case rel => exact ⟨k + 1, by omega, by go_num, HT.out, hi3⟩
   case measure => simp [intOf]; omega
 obtain rfl : k = c.ls.length := by omega
 rw [List.take_length] at hall
 have HALL := Lib.hid hall
 clear hall
 have hst : DL w (wr.iter Cm.kinds 0) c w1.heap.size := hi.below (lowAlloc wr _)
 have hit0 : Hp (wr.iter Cm.kinds 0) wr.heap.size (.stringIter Cm.kinds 0) := Hp.new wr _
 have HST := Lib.hid hst
 have HIT := Lib.hid hit0
 have hwr := hi.gx.lt
 have hws := hi.low.size
 have hlb := hi.lb
 clear hst hit0 hi
 go_wp2
 go_loopw [8] (fun _ V => ∃ k : Nat, k ≤ 6 ∧ (List.range k).all (fun i => (Cm.lstS c (Cm.kindAt i)).all (Gm.litB (c.n + c.ls.length) c.gs.length)) = true ∧ DL w V c w1.heap.size ∧ Hp V wr.heap.size (.stringIter Cm.kinds k)) (fun _ V => 6 - iterPos V wr.heap.size)
 case atStart => exact ⟨0, by omega, rfl, HST.out, HIT.out⟩
 obtain ⟨k, hk, hal, hi, hit⟩ := hrel
 have hip := hit.pos
 by_cases hlt : k < 6
 ·
  obtain ⟨wn, hnx, hitn, hgr⟩ := next_kind _ _ k hit hlt
  have hls := hi.low.size
  have lo := below_grown hi.low hgr (by omega) hi.low.size
  have hbx := hi.box.grown hgr (fun e => by injection e with e; omega)
  have hgx := hi.gx.grown hgr (fun e => by injection e with e; omega)
  have c0 := hbx.cell 0
  have c1 := hbx.cell 1
  have c2 := hbx.cell 2
  have c3 := hbx.cell 3
  have c4 := hbx.cell 4
  have c5 := hbx.cell 5
  have c6 := hbx.cell 6
  have c7 := hbx.cell 7
  simp only [zD, zE, zF] at c0 c1 c2 c3 c4 c5 c6 c7
  have HIP := Lib.hid hip
  have e1 : (List.range (k + 1)).all (fun i => (Cm.lstS c (Cm.kindAt i)).all (Gm.litB (c.n + c.ls.length) c.gs.length)) = (Cm.lstS c (Cm.kindAt k)).all (Gm.litB (c.n + c.ls.length) c.gs.length) := by rw [List.range_succ, List.all_append, hal]; simp
  have e2 : (Cm.lstS c (Cm.kindAt k)).all (Gm.litB (c.n + c.ls.length) c.gs.length) = false → Cm.drivenB c = false := fun h => by
   have : (List.range 6).all (fun i => (Cm.lstS c (Cm.kindAt i)).all (Gm.litB (c.n + c.ls.length) c.gs.length)) = false := List.all_eq_false.2 ⟨k, by simpa using hlt, by simp [h]⟩
   simp only [Cm.drivenB, this, Bool.and_false]
  have E1 := Lib.hid e1
  have E2 := Lib.hid e2
  clear hip e1 e2 hal
  go_wp2_with fail
  refine (listed_any c (Cm.kindAt k) wn).mono ?_
  rintro e w2 ⟨rfl, hb2⟩
  obtain ⟨A, q, hl, hV⟩ := hM.lst (Cm.kindAt k)
  rw [hl]
  have lo2 := lo.trans (hb2.mono lo.size)
  have hgx2 := hgx.below hb2 hgx.lt
  have hit2 := hitn.below hb2 hitn.lt
  have hbx2 := hbx.below hb2 hbx.lt
  have d0 := hgx2.cell 0
  have d1 := hgx2.cell 1
  simp only [zD, zE, zF] at d0 d1
  have HC := Lib.hid (containsInts_any w1.heap.size (c.n + c.ls.length) c.aG c.gs.length c.cG A q (Cm.lstS c (Cm.kindAt k)) w2 hlg (Nat.le_trans (Cm.lst_len HF.out _) (by omega)) ((hV.below lo2 (Nat.le_refl _)).more lo2.size) hgx2.lt d0 d1)
  rw [Cm.not_any] at HC
  clear hl c0 c1 c2 c3 c4 c5 c6 c7 hnx hV
  generalize (Cm.lstS c (Cm.kindAt k)).all (Gm.litB (c.n + c.ls.length) c.gs.length) = t at *
  generalize (Cm.lstS c (Cm.kindAt k)).length = len at *
  go_wp2_with fail
  refine HC.out.mono ?_
  rintro e w3 ⟨rfl, hb3⟩
  have hfin : DL w w3 c w1.heap.size := ⟨lo2.trans (hb3.mono lo2.size), hbx2.below hb3 hbx2.lt, hgx2.below hb3 hgx2.lt, hi.lb⟩
  have hit3 := hit2.below hb3 hit2.lt
  clear hb3 hb2 d0 d1 lo lo2 hbx hgx hgx2 hbx2 hit2 hitn hit hi hgr
  cases t with
  | false =>
   have HN := Lib.hid (E2.out rfl)
   go_wp2
   go_ret
   exact ⟨ret_bool (HZ.out.trans HN.out).symm, hfin.low⟩
  | true =>
   go_wp2
   go_roundw
   case rel => exact ⟨k + 1, by omega, E1.out, hfin, hit3⟩
   case measure => rw [HIP.out, hit3.pos]; omega
 obtain rfl : k = 6 := by omega
 have hnx := next_kend _ _ hit
 have HA : Hid (Cm.drivenB c = true) := by
  unfold Hid Cm.drivenB
  rw [HALL.out, hal]
  rfl
 have lo := hi.low
 clear hal hi hip hit
 go_wp2
 go_ret
 exact ⟨ret_bool (HZ.out.trans HA.out).symm, lo⟩
end Go.Proofs.YtpejilhdhkmcjaaGreatDoor
