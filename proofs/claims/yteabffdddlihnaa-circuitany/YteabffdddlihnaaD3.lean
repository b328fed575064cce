/- fits, inner; the closure of driven; ContainsFunc over ints. -/
import Derived.Test.YteabffdddlihnaaD2
namespace Go.Proofs.Yteabffdddlihnaa
open Go.RowKit

namespace Cm
/-- The numbers of signals are within the limits. -/
def fitsB (c : Cir) : Bool := decide (0 ≤ c.n) && decide (c.n ≤ 2000) && decide (c.ls.length ≤ 2000) && decide (c.os.length ≤ 2000) && decide (c.bs.length ≤ 2000) && decide (c.cs.length ≤ 2000) && decide (c.fs.length ≤ 2000)
def okN (c : Cir) (i : Nat) : Bool := decide (0 ≤ numS c (kindAt i)) && decide (numS c (kindAt i) ≤ 2000)
theorem fits_all (c : Cir) : fitsB c = (List.range 6).all (okN c) := by
  simp only [List.range, List.range.loop, List.all_cons, List.all_nil, okN, numS, kindAt, lstS, fitsB, List.getD_cons_zero, List.getD_cons_succ]
  simp
  rw [Bool.eq_iff_iff]
  simp
  omega
end Cm
theorem look_kind (w : World) (b : Nat) (c : Cir) (k : Nat) (h : k < 6) (hb : Hp w b (cmap (numL c) 6)) :
    (Instr.lookup 73 (.map (some b)) (.int .i32 (Cm.kindAt k)) false).run Try.prog w = .ok (.int .i64 (Cm.numS c (Cm.kindAt k))) w :=
  look_any w b _ 6 _ _ hb (Or.inr ⟨k, find_old _ k h⟩)
theorem look_rune (w : World) (b : Nat) (c : Cir) (j : Int) (hb : Hp w b (cmap (numL c) 6)) :
    (Instr.lookup 73 (.map (some b)) (.int .i32 j) false).run Try.prog w = .ok (.int .i64 (Cm.numS c j)) w := by
  by_cases h0 : j = 105
  · subst h0; exact look_kind w b c 0 (by omega) hb
  by_cases h1 : j = 108
  · subst h1; exact look_kind w b c 1 (by omega) hb
  by_cases h2 : j = 111
  · subst h2; exact look_kind w b c 2 (by omega) hb
  by_cases h3 : j = 98
  · subst h3; exact look_kind w b c 3 (by omega) hb
  by_cases h4 : j = 99
  · subst h4; exact look_kind w b c 4 (by omega) hb
  by_cases h5 : j = 102
  · subst h5; exact look_kind w b c 5 (by omega) hb
  refine look_any w b _ 6 _ _ hb (Or.inl ⟨?_, ?_⟩)
  · rcases MapKept.findNow_spec (keyIs j) (ents (numL c) 6) 0 (fun x hx => by obtain ⟨i, _, rfl⟩ := List.mem_map.1 hx; exact keyIs _) with ⟨h, _⟩ | ⟨i, e, _, he, hk⟩
    · exact h
    · exfalso
      have hi : i < 6 := by
        have := (List.getElem?_eq_some_iff.1 he).1
        simpa [ents] using this
      rw [ents_get _ i hi] at he
      injection he with he
      subst he
      simp only [Value.int.injEq, true_and] at hk
      match i, hi with
      | 0, _ => exact h0 hk.symm
      | 1, _ => exact h1 hk.symm
      | 2, _ => exact h2 hk.symm
      | 3, _ => exact h3 hk.symm
      | 4, _ => exact h4 hk.symm
      | 5, _ => exact h5 hk.symm
  · simp [Cm.numS, Cm.lstS, h0, h1, h2, h3, h4, h5]

/-- What a loop over the kinds keeps, with the map. -/
structure KL (w wr : World) (c : Cir) (b ib : Nat) (k : Nat) : Prop where
  low : Below w.heap.size w wr
  box : Blk wr w.heap.size 27 #[.int .i64 c.n, .slice c.aL c.ls.length c.cL, .slice c.aG c.gs.length c.cG, .slice c.aO c.os.length c.cO, .slice c.aB c.bs.length c.cB, .slice c.aC c.cs.length c.cC, .slice c.aF c.fs.length c.cF, .slice c.aN c.ns.length c.cN]
  map : Hp wr b (cmap (numL c) 6)
  it : Hp wr ib (.stringIter Cm.kinds k)
  lb : w.heap.size < b
  li : b < ib

set_option maxRecDepth 100000 in
set_option maxHeartbeats 4000000 in
theorem fits4_any (c : Cir) (w : World) : Calls Try.prog 35 #[.agg #[.int .i64 c.n, .slice c.aL c.ls.length c.cL, .slice c.aG c.gs.length c.cG, .slice c.aO c.os.length c.cO, .slice c.aB c.bs.length c.cB, .slice c.aC c.cs.length c.cC, .slice c.aF c.fs.length c.cF, .slice c.aN c.ns.length c.cN]] w fun e w' => e = .returned (.bool (Cm.fitsB c)) ∧ Below w.heap.size w w' := by
  have hbx := boxed w c
  have c0 := hbx.cell 0
  have c1 := hbx.cell 1
  have c2 := hbx.cell 2
  have c3 := hbx.cell 3
  have c4 := hbx.cell 4
  have c5 := hbx.cell 5
  have c6 := hbx.cell 6
  have c7 := hbx.cell 7
  simp only [List.getElem?_toArray, List.getElem?_cons_zero, List.getElem?_cons_succ] at c0 c1 c2 c3 c4 c5 c6 c7
  rw [Cm.fits_all]
  obtain ⟨z, hz⟩ : ∃ z, z = (List.range 6).all (Cm.okN c) := ⟨_, rfl⟩
  rw [← hz]
  have HZ := Lib.hid hz
  clear hz
  go_enter Try.func35, Try.ntmps35
  go_wp2_with fail
  refine (counts_any c _).mono ?_
  rintro e w1 ⟨b, rfl, hb, hmp, hlo⟩
  replace hbx := hbx.below hlo (by simp)
  have hbs := hmp.lt
  simp at hb
  have hst : KL w (w1.iter Cm.kinds 0) c b w1.heap.size 0 := by
    refine ⟨((lowAlloc w _).trans (hlo.mono (by simp))).alloc (by omega) _, hbx.alloc _, hmp.alloc _, Hp.new w1 _, by omega, hbs⟩
  have HST := Lib.hid hst
  clear hst c0 c1 c2 c3 c4 c5 c6 c7 hbx hmp hlo
  go_wp2
  go_loopw [5] (fun _ wr => ∃ k : Nat, k ≤ 6 ∧ (List.range k).all (Cm.okN c) = true ∧ KL w wr c b w1.heap.size k) (fun _ wr => 6 - iterPos wr w1.heap.size)
  case atStart => exact ⟨0, by omega, rfl, HST.out⟩
  case round =>
    obtain ⟨k, hk, hal, hi⟩ := hrel
    have hip := hi.it.pos
    by_cases hlt : k < 6
    · obtain ⟨wn, hnx, hit, hgr⟩ := next_kind wr _ k hi.it hlt
      have hls := hi.low.size
      have lo := below_grown hi.low hgr (by omega) hi.low.size
      have hbx := hi.box.grown hgr (fun e => by injection e with e; omega)
      have hmp := hi.map.grown hgr (fun e => by injection e with e; omega)
      have hlk := look_kind wn b c k hlt hmp
      have hfin : KL w wn c b w1.heap.size (k + 1) := ⟨lo, hbx, hmp, hit, hi.lb, hi.li⟩
      have hall : (List.range (k + 1)).all (Cm.okN c) = Cm.okN c k := by rw [List.range_succ, List.all_append, hal]; simp
      have hno : Cm.okN c k = false → (List.range 6).all (Cm.okN c) = false := by
        intro h
        rw [List.all_eq_false]
        exact ⟨k, by simpa using hlt, by simp [h]⟩
      have hok : Cm.okN c k = (decide (0 ≤ Cm.numS c (Cm.kindAt k)) && decide (Cm.numS c (Cm.kindAt k) ≤ 2000)) := rfl
      have HIP := Lib.hid hip
      have HALL := Lib.hid hall
      have HNO := Lib.hid hno
      have HOK := Lib.hid hok
      clear hip hall hno hok hal hgr hbx hmp
      generalize Cm.numS c (Cm.kindAt k) = x at *
      by_cases h0 : x < 0
      · have HF := Lib.hid (HNO.out (by rw [HOK.out, Bool.and_eq_false_iff]; simp only [decide_eq_false_iff_not]; omega))
        go_wp2
        go_ret
        exact ⟨ret_bool (HZ.out.trans HF.out).symm, lo⟩
      · by_cases h1 : 2000 < x
        · have HF := Lib.hid (HNO.out (by rw [HOK.out, Bool.and_eq_false_iff]; simp only [decide_eq_false_iff_not]; omega))
          go_wp2
          go_ret
          exact ⟨ret_bool (HZ.out.trans HF.out).symm, lo⟩
        · have HT : Hid ((List.range (k + 1)).all (Cm.okN c) = true) := HALL.out.trans (by rw [HOK.out]; simp; omega)
          go_wp2
          go_roundw
          case rel => exact ⟨k + 1, by omega, HT.out, hfin⟩
          case measure => rw [HIP.out, hfin.it.pos]; omega
    · obtain rfl : k = 6 := by omega
      have hnx := next_kend wr _ hi.it
      have lo := hi.low
      have HA := Lib.hid hal
      clear hal hi hip
      go_wp2
      go_ret
      exact ⟨ret_bool (HZ.out.trans HA.out).symm, lo⟩

set_option maxRecDepth 100000 in
set_option maxHeartbeats 4000000 in
theorem inner_any (c : Cir) (w : World) : Calls Try.prog 31 #[.agg #[.int .i64 c.n, .slice c.aL c.ls.length c.cL, .slice c.aG c.gs.length c.cG, .slice c.aO c.os.length c.cO, .slice c.aB c.bs.length c.cB, .slice c.aC c.cs.length c.cC, .slice c.aF c.fs.length c.cF, .slice c.aN c.ns.length c.cN]] w fun e w' => e = .returned (.agg #[.int .i64 (wrap64 (c.n + c.ls.length)), .slice c.aG c.gs.length c.cG]) ∧ Below w.heap.size w w' := by
  have HW := Lib.hid (fun V => width_any c V)
  have hbx := (boxed w c).alloc (Obj.cells #[.int .i64 0, .slice none 0 0] 45)
  have hgx : Blk ((w.alloc (Obj.cells #[.int .i64 c.n, .slice c.aL c.ls.length c.cL, .slice c.aG c.gs.length c.cG, .slice c.aO c.os.length c.cO, .slice c.aB c.bs.length c.cB, .slice c.aC c.cs.length c.cC, .slice c.aF c.fs.length c.cF, .slice c.aN c.ns.length c.cN] 27)).alloc (Obj.cells #[.int .i64 0, .slice none 0 0] 45)) (w.heap.size + 1) 45 #[.int .i64 0, .slice none 0 0] := by
    have := Blk.new (w.alloc (Obj.cells #[.int .i64 c.n, .slice c.aL c.ls.length c.cL, .slice c.aG c.gs.length c.cG, .slice c.aO c.os.length c.cO, .slice c.aB c.bs.length c.cB, .slice c.aC c.cs.length c.cC, .slice c.aF c.fs.length c.cF, .slice c.aN c.ns.length c.cN] 27)) 45 #[.int .i64 0, .slice none 0 0]
    simpa using this
  have lo := (lowAlloc w (Obj.cells #[.int .i64 c.n, .slice c.aL c.ls.length c.cL, .slice c.aG c.gs.length c.cG, .slice c.aO c.os.length c.cO, .slice c.aB c.bs.length c.cB, .slice c.aC c.cs.length c.cC, .slice c.aF c.fs.length c.cF, .slice c.aN c.ns.length c.cN] 27)).alloc (by simp) (Obj.cells #[.int .i64 0, .slice none 0 0] 45)
  generalize wrap64 (c.n + c.ls.length) = x at *
  go_enter Try.func31, Try.ntmps31
  go_upto_region 1 with fail
  generalize ((w.alloc (Obj.cells #[.int .i64 c.n, .slice c.aL c.ls.length c.cL, .slice c.aG c.gs.length c.cG, .slice c.aO c.os.length c.cO, .slice c.aB c.bs.length c.cB, .slice c.aC c.cs.length c.cC, .slice c.aF c.fs.length c.cF, .slice c.aN c.ns.length c.cN] 27)).alloc (Obj.cells #[.int .i64 0, .slice none 0 0] 45)) = W at *
  have hz1 := hgx.lt
  have HK : Hid (∀ V, Below (w.heap.size + 1) W V → V.cell? ⟨w.heap.size, 0, none⟩ = some (.int .i64 c.n) ∧ V.cell? ⟨w.heap.size, 1, none⟩ = some (.slice c.aL c.ls.length c.cL) ∧ V.cell? ⟨w.heap.size, 2, none⟩ = some (.slice c.aG c.gs.length c.cG) ∧ V.cell? ⟨w.heap.size, 3, none⟩ = some (.slice c.aO c.os.length c.cO) ∧ V.cell? ⟨w.heap.size, 4, none⟩ = some (.slice c.aB c.bs.length c.cB) ∧ V.cell? ⟨w.heap.size, 5, none⟩ = some (.slice c.aC c.cs.length c.cC) ∧ V.cell? ⟨w.heap.size, 6, none⟩ = some (.slice c.aF c.fs.length c.cF) ∧ V.cell? ⟨w.heap.size, 7, none⟩ = some (.slice c.aN c.ns.length c.cN)) := by
    intro V hb
    have h := hbx.below hb (by omega)
    exact ⟨h.cell 0, h.cell 1, h.cell 2, h.cell 3, h.cell 4, h.cell 5, h.cell 6, h.cell 7⟩
  have lx0 := Below.refl (w.heap.size + 1) W
  have HGX := Lib.hid hgx
  clear hbx hgx
  go_region_held3 (fun V => V.cell? ⟨w.heap.size, 0, none⟩ = some (.int .i64 c.n) ∧ V.cell? ⟨w.heap.size, 1, none⟩ = some (.slice c.aL c.ls.length c.cL) ∧ V.cell? ⟨w.heap.size, 2, none⟩ = some (.slice c.aG c.gs.length c.cG) ∧ V.cell? ⟨w.heap.size, 3, none⟩ = some (.slice c.aO c.os.length c.cO) ∧ V.cell? ⟨w.heap.size, 4, none⟩ = some (.slice c.aB c.bs.length c.cB) ∧ V.cell? ⟨w.heap.size, 5, none⟩ = some (.slice c.aC c.cs.length c.cC) ∧ V.cell? ⟨w.heap.size, 6, none⟩ = some (.slice c.aF c.fs.length c.cF) ∧ V.cell? ⟨w.heap.size, 7, none⟩ = some (.slice c.aN c.ns.length c.cN))
    (first | exact HK.out _ lx0 | exact HK.out _ lx0.drew | exact HK.out _ lx6 | exact HK.out _ lx6.drew | exact HK.out _ ((lx6.setCell (Nat.le_refl _) _).setCell (Nat.le_refl _) _))
    (first | (go_at_call 52; refine (HW.out _).mono ?_; rintro e w2 ⟨rfl, hb⟩; have lx6 := lx0.drew.trans (hb.mono (Nat.le_of_lt hz1)); have hg6 := (show Blk W.drew (w.heap.size + 1) 45 #[.int .i64 0, .slice none 0 0] from HGX.out).below hb hz1; have x0 := hg6.cell 0; have x1 := hg6.cell 1; have y0 := hg6.frozen 0; have y1 := hg6.frozen 1))
  simp only [List.getElem?_toArray, List.getElem?_cons_zero, List.getElem?_cons_succ] at x0 x1
  go_wp2
  have hbf : Below w.heap.size w ((w2.setCell ⟨w.heap.size + 1, 0, none⟩ (.int .i64 x)).setCell ⟨w.heap.size + 1, 1, none⟩ (.slice c.aG c.gs.length c.cG)) :=
    ((lo.trans (lx6.mono (Nat.le_succ _))).setCell (by simp) _).setCell (by simp) _
  have r0 : ((w2.setCell ⟨w.heap.size + 1, 0, none⟩ (.int .i64 x)).setCell ⟨w.heap.size + 1, 1, none⟩ (.slice c.aG c.gs.length c.cG)).cell? ⟨w.heap.size + 1, 0, none⟩ = some (.int .i64 x) :=
    (World.cell?_setCell_other _ _ _ _ (by simp)).trans (World.cell?_setCell_same _ _ _ x0)
  have r1 : ((w2.setCell ⟨w.heap.size + 1, 0, none⟩ (.int .i64 x)).setCell ⟨w.heap.size + 1, 1, none⟩ (.slice c.aG c.gs.length c.cG)).cell? ⟨w.heap.size + 1, 1, none⟩ = some (.slice c.aG c.gs.length c.cG) :=
    World.cell?_setCell_same _ _ _ ((World.cell?_setCell_other _ _ _ _ (by simp)).trans x1)
  exact bodyPost_ret (v := .agg #[.int .i64 x, .slice c.aG c.gs.length c.cG]) (by simp [results, Try.results31, go_sem, r0, r1]) rfl ⟨rfl, hbf⟩

theorem stray_any (gb : Nat) (N : Int) (A : Option Addr) (l q : Nat) (x : Int) (w : World) (hl : l ≤ 1000000) (h0 : w.cell? ⟨gb, 0, none⟩ = some (.int .i64 N)) (h1 : w.cell? ⟨gb, 1, none⟩ = some (.slice A l q)) :
    Calls Try.prog 60 #[.int .i64 x, .pointer (some ⟨gb, 0, none⟩)] w fun e w' => e = .returned (.bool (!Gm.litB N l x)) ∧ Below w.heap.size w w' := by
  have HL := Lib.hid (lit_any N A l q x w hl)
  have hnot : ∀ (x : Bool) (w : World), (Op.unary .not (.bool x)).run Try.prog w = .ok (.bool (!x)) w := fun _ _ => rfl
  go_enter Try.func60, Try.ntmps60
  go_wp2_with fail
  refine HL.out.mono ?_
  rintro e w1 ⟨rfl, hb1⟩
  go_wp2
  go_ret
  exact ⟨rfl, hb1⟩

set_option maxRecDepth 100000 in
set_option maxHeartbeats 4000000 in
theorem indexInts_any (gb : Nat) (N : Int) (A : Option Addr) (l q : Nat) (Ax : Option Addr) (cx : Nat) (xs : List Int) (w : World) (hl : l ≤ 1000000) (hxs : xs.length ≤ 1000000) (hV : Vs w w.heap.size Ax (iv xs)) (hgb : gb < w.heap.size) (h0 : w.cell? ⟨gb, 0, none⟩ = some (.int .i64 N)) (h1 : w.cell? ⟨gb, 1, none⟩ = some (.slice A l q)) :
    Calls Try.prog 75 #[.slice Ax xs.length cx, .func (.func 60) #[] #[.pointer (some ⟨gb, 0, none⟩)]] w fun e w' => (∃ r, e = .returned (.int .i64 r) ∧ decide (0 ≤ r) = xs.any (fun x => !Gm.litB N l x)) ∧ Below w.heap.size w w' := by
  go_enter Try.func75, Try.ntmps75
  go_wp2
  go_loopw [8] (fun i wr => ∃ k : Nat, k ≤ xs.length ∧ i = .int .i64 k ∧ (xs.take k).any (fun x => !Gm.litB N l x) = false ∧ Below w.heap.size w wr) (fun i _ => xs.length - (intOf i).toNat)
  case atStart => exact ⟨0, Nat.zero_le _, rfl, rfl, Below.refl _ _⟩
  case round =>
    obtain ⟨k, hk, rfl, hany, lo⟩ := hrel
    by_cases hlt : k < xs.length
    · obtain ⟨b, off, hA, hbw, g1⟩ := (hV.below lo (Nat.le_refl _)) k (by simpa using hlt)
      subst hA
      have hix := ixI b off xs.length cx k hxs hlt
      have e1 : (xs.take (k + 1)).any (fun x => !Gm.litB N l x) = !Gm.litB N l xs[k] := by rw [List.take_succ_eq_append_getElem hlt, List.any_append, hany]; simp
      have e2 : Gm.litB N l xs[k] = false → xs.any (fun x => !Gm.litB N l x) = true := fun h => List.any_eq_true.2 ⟨xs[k], by simp, by simp [h]⟩
      have E1 := Lib.hid e1
      have E2 := Lib.hid e2
      have HS := Lib.hid (stray_any gb N A l q xs[k] wr hl ((lo.cell (p := ⟨gb, 0, none⟩) hgb).trans h0) ((lo.cell (p := ⟨gb, 1, none⟩) hgb).trans h1))
      have g1' : wr.cell? ⟨b, off + k, none⟩ = some (.int .i64 xs[k]) := by simpa using g1
      have HAny := Lib.hid hany
      clear e1 e2 g1 hany
      generalize xs[k] = x at *
      generalize Gm.litB N l x = z at *
      go_wp2_with fail
      refine HS.out.mono ?_
      rintro e w1 ⟨rfl, hb1⟩
      have lo1 := lo.trans (hb1.mono lo.size)
      cases z with
      | true =>
        go_wp2
        go_roundw
        case rel => exact ⟨k + 1, by omega, by go_num, by rw [E1.out]; rfl, lo1⟩
        case measure => simp [intOf]; omega
      | false =>
        go_wp2
        go_ret
        exact ⟨⟨_, rfl, by rw [E2.out trivial]; simp⟩, lo1⟩
    · obtain rfl : k = xs.length := by omega
      rw [List.take_length] at hany
      have HA := Lib.hid hany
      clear hany
      go_wp2
      go_ret
      exact ⟨⟨_, rfl, by rw [HA.out]; rfl⟩, lo⟩

set_option maxHeartbeats 1000000 in
theorem containsInts_any (gb : Nat) (N : Int) (A : Option Addr) (l q : Nat) (Ax : Option Addr) (cx : Nat) (xs : List Int) (w : World) (hl : l ≤ 1000000) (hxs : xs.length ≤ 1000000) (hV : Vs w w.heap.size Ax (iv xs)) (hgb : gb < w.heap.size) (h0 : w.cell? ⟨gb, 0, none⟩ = some (.int .i64 N)) (h1 : w.cell? ⟨gb, 1, none⟩ = some (.slice A l q)) :
    Calls Try.prog 61 #[.slice Ax xs.length cx, .func (.func 60) #[] #[.pointer (some ⟨gb, 0, none⟩)]] w fun e w' => e = .returned (.bool (xs.any (fun x => !Gm.litB N l x))) ∧ Below w.heap.size w w' := by
  have HI := Lib.hid (indexInts_any gb N A l q Ax cx xs w hl hxs hV hgb h0 h1)
  generalize xs.any (fun x => !Gm.litB N l x) = z at *
  go_enter Try.func61, Try.ntmps61
  go_wp2_with fail
  refine HI.out.mono ?_
  rintro e w1 ⟨⟨r, rfl, hr⟩, hb1⟩
  have HR := Lib.hid hr
  clear hr
  go_wp2
  go_ret
  exact ⟨ret_bool HR.out, hb1⟩
end Go.Proofs.Yteabffdddlihnaa
