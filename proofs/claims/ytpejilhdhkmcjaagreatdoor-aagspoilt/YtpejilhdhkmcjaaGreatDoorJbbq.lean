/- The document's reader of texts: Parse. -/
import Derived.Test.YtpejilhdhkmcjaaGreatDoorJbAl
import Derived.Test.YtpejilhdhkmcjaaGreatDoorJbbp
import Derived.Test.YtpejilhdhkmcjaaGreatDoorJbbd
import Derived.Deep.CutBlock
namespace Go.Proofs.YtpejilhdhkmcjaaGreatDoor
open Go.RowKit

/-- A text is parsed by the document. -/
def RParseP (w : World) (o : Except Nat Cir) (e : Ending) (w' : World) : Prop :=
 match o with
 | .error k => e = .returned (.tuple #[zeroC, .int .i64 (k : Int)]) ∧ Below w.heap.size w w'
 | .ok c0 => ∃ c : Cir, Ag.strip c = c0 ∧ e = .returned (.tuple #[.agg #[.int .i64 c.n, .slice c.aL c.ls.length c.cL, .slice c.aG c.gs.length c.cG, .slice c.aO c.os.length c.cO, .slice c.aB c.bs.length c.cB, .slice c.aC c.cs.length c.cC, .slice c.aF c.fs.length c.cF, .slice c.aN c.ns.length c.cN], .int .i64 0]) ∧ CirM w' w'.heap.size c ∧ Below w.heap.size w w'
theorem padv_at {ns : List Nat} {most : Nat} {ys : List Int} (h : ys = natV ns ++ List.replicate (most - ns.length) 0) (hl : ns.length ≤ most) (j : Nat) (hj : j < most) (hj2 : j < ys.length) : ys[j] = ((ns.getD j 0 : Nat) : Int) := by
 have e : ys[j]? = some ((ns.getD j 0 : Nat) : Int) := by
  rw [h, List.getD_eq_getElem?_getD]
  unfold natV
  by_cases hn : j < ns.length
  ·
   rw [List.getElem?_append_left (by simpa using hn), List.getElem?_map, List.getElem?_eq_getElem hn]
   rfl
  rw [List.getElem?_append_right (by simp; omega), List.getElem?_eq_none (show ns.length ≤ j by omega), List.getElem?_replicate, if_pos (by simp; omega)]
  rfl
 rw [List.getElem?_eq_getElem hj2] at e
 injection e
def toldE (o : Option Cir) : Except Nat Cir := match o with | none => .error 21 | some c => if Cm.rightC c = true then .ok c else .error 22
theorem parse_body (s : Ag.Bs) (h : ¬ 20000 < s.length) : Ag.parseS s = match Ag.headS Ag.aagW s with
  | none => .error 20
  | some (m, r) => toldE (Ag.bodyS m r) := by
 unfold Ag.parseS
 rw [if_neg h]
 rfl
theorem sigs_pad (m : List Nat) (r : Ag.Bs) : Ag.sigsS (Ag.pad9 m) r = Ag.sigsS m r := by
 unfold Ag.sigsS
 simp only [Ag.pad_ge]
/-- The circuit's rows lie behind a bound. -/
structure CRows (w : World) (base : Nat) (c : Cir) : Prop where
 hL : w.ownsRow base 49 2 (.slice c.aL c.ls.length c.cL) c.ls.length (flat c.ls)
 hG : w.ownsRow base 57 2 (.slice c.aG c.gs.length c.cG) c.gs.length (flat c.gs)
 hO : w.ownsRow base 3 1 (.slice c.aO c.os.length c.cO) c.os.length (iv c.os)
 hB : w.ownsRow base 3 1 (.slice c.aB c.bs.length c.cB) c.bs.length (iv c.bs)
 hC : w.ownsRow base 3 1 (.slice c.aC c.cs.length c.cC) c.cs.length (iv c.cs)
 hF : w.ownsRow base 3 1 (.slice c.aF c.fs.length c.cF) c.fs.length (iv c.fs)
 hN : w.ownsRow base 69 3 (.slice c.aN c.ns.length c.cN) c.ns.length (flatN c.ns)
theorem CRows.set {w : World} {base : Nat} {c : Cir} (h : CRows w base c) {p : Addr} (hp : p.block < base) (u : Value) : CRows (w.setCell p u) base c :=
 ⟨row_set h.hL hp u, row_set h.hG hp u, row_set h.hO hp u, row_set h.hB hp u, row_set h.hC hp u, row_set h.hF hp u, row_set h.hN hp u⟩
theorem CRows.low {w w' : World} {base : Nat} {c : Cir} (h : CRows w base c) (hb : Below w.heap.size w w') : CRows w' base c :=
 ⟨row_low h.hL hb, row_low h.hG hb, row_low h.hO hb, row_low h.hB hb, row_low h.hC hb, row_low h.hF hb, row_low h.hN hb⟩
theorem CRows.cir {w : World} {base : Nat} {c : Cir} (h : CRows w base c) : CirM w w.heap.size c := by
 have g1 : ∀ {A : Option Addr} {q : Nat} {zs : List Int}, w.ownsRow base 3 1 (.slice A zs.length q) zs.length (iv zs) → Vs w w.heap.size A (iv zs) := by
  intro A q zs hz
  obtain ⟨A', q', e, hv⟩ := int_vs hz
  injection e with e1
  subst e1
  exact hv
 exact ⟨latch_gr2 h.hL, gate_gr2 h.hG, g1 h.hO, g1 h.hB, g1 h.hC, g1 h.hF, (name_ns2 h.hN).1⟩
set_option maxRecDepth 10000 in
set_option maxHeartbeats 8000000 in
theorem tparse_any (s : Ag.Bs) (w : World) (_hsm : s.length ≤ maxLen) : Calls Tryz.prog 20 #[.string (bsv s)] w (RParseP w (Ag.parseS s)) := by
 have hz := bsv_size s
 have hml : maxLen ≤ 9223372036854775807 := by decide
 have lo0 := lowAlloc w (Obj.cells #[.int .i64 0, .slice none 0 0, .slice none 0 0, .slice none 0 0, .slice none 0 0, .slice none 0 0, .slice none 0 0, .slice none 0 0] 29)
 have hbx := Blk.new w 29 #[.int .i64 0, .slice none 0 0, .slice none 0 0, .slice none 0 0, .slice none 0 0, .slice none 0 0, .slice none 0 0, .slice none 0 0]
 by_cases hlong : 20000 < s.length
 ·
  have dl : decide ((20000 : Int) < ((bsv s).size : Int)) = true := decide_eq_true (by omega)
  have dl2 : decide ((20000 : Int) < (s.length : Int)) = true := decide_eq_true (by omega)
  have HPO : Hid (Ag.parseS s = .error 2) := by unfold Hid Ag.parseS; rw [if_pos hlong]
  clear hlong
  go_enter Tryz.func20, Tryz.ntmps20
  have b0 := hbx.cell 0
  have b1 := hbx.cell 1
  have b2 := hbx.cell 2
  have b3 := hbx.cell 3
  have b4 := hbx.cell 4
  have b5 := hbx.cell 5
  have b6 := hbx.cell 6
  have b7 := hbx.cell 7
  simp only [zD, zE, zF] at b0 b1 b2 b3 b4 b5 b6 b7
  go_wp2
  generalize w.alloc (Obj.cells #[.int .i64 0, .slice none 0 0, .slice none 0 0, .slice none 0 0, .slice none 0 0, .slice none 0 0, .slice none 0 0, .slice none 0 0] 29) = W9 at *
  refine bodyPost_ret (v := .tuple #[.agg #[.int .i64 0, .slice none 0 0, .slice none 0 0, .slice none 0 0, .slice none 0 0, .slice none 0 0, .slice none 0 0, .slice none 0 0], .int .i64 2]) (by simp [results, Tryz.results20, go_sem, b0, b1, b2, b3, b4, b5, b6, b7]) rfl ?_
  unfold RParseP
  rw [HPO.out]
  exact ⟨rfl, lo0⟩
 have dl : decide ((20000 : Int) < ((bsv s).size : Int)) = false := decide_eq_false (by omega)
 have dl2 : decide ((20000 : Int) < (s.length : Int)) = false := decide_eq_false (by omega)
 have HSL : Hid (s.length ≤ 20000) := by unfold Hid; omega
 have HPB := Lib.hid (parse_body s hlong)
 have lo1 := lo0.alloc lo0.size (Obj.cells #[.string (bsv s), .bool false, .slice none 0 0, .int .i64 0, .slice none 0 0, .slice none 0 0, .slice none 0 0, .slice none 0 0, .slice none 0 0, .slice none 0 0, .slice none 0 0] 80)
 have hbx1 := hbx.alloc (Obj.cells #[.string (bsv s), .bool false, .slice none 0 0, .int .i64 0, .slice none 0 0, .slice none 0 0, .slice none 0 0, .slice none 0 0, .slice none 0 0, .slice none 0 0, .slice none 0 0] 80)
 have hT0 : TK ((w.alloc (Obj.cells #[.int .i64 0, .slice none 0 0, .slice none 0 0, .slice none 0 0, .slice none 0 0, .slice none 0 0, .slice none 0 0, .slice none 0 0] 29)).alloc (Obj.cells #[.string (bsv s), .bool false, .slice none 0 0, .int .i64 0, .slice none 0 0, .slice none 0 0, .slice none 0 0, .slice none 0 0, .slice none 0 0, .slice none 0 0, .slice none 0 0] 80)) (w.heap.size + 1) s false [.slice none 0 0, .int .i64 0, .slice none 0 0, .slice none 0 0, .slice none 0 0, .slice none 0 0, .slice none 0 0, .slice none 0 0, .slice none 0 0] := by
  have := Blk.new (w.alloc (Obj.cells #[.int .i64 0, .slice none 0 0, .slice none 0 0, .slice none 0 0, .slice none 0 0, .slice none 0 0, .slice none 0 0, .slice none 0 0] 29)) 80 #[.string (bsv s), .bool false, .slice none 0 0, .int .i64 0, .slice none 0 0, .slice none 0 0, .slice none 0 0, .slice none 0 0, .slice none 0 0, .slice none 0 0, .slice none 0 0]
  simpa [TK] using this
 have hsz : ((w.alloc (Obj.cells #[.int .i64 0, .slice none 0 0, .slice none 0 0, .slice none 0 0, .slice none 0 0, .slice none 0 0, .slice none 0 0, .slice none 0 0] 29)).alloc (Obj.cells #[.string (bsv s), .bool false, .slice none 0 0, .int .i64 0, .slice none 0 0, .slice none 0 0, .slice none 0 0, .slice none 0 0, .slice none 0 0, .slice none 0 0, .slice none 0 0] 80)).heap.size = w.heap.size + 2 := by simp
 clear hlong _hsm hml lo0 hbx
 go_enter Tryz.func20, Tryz.ntmps20
 go_upto_region 4 with fail
 generalize ((w.alloc (Obj.cells #[.int .i64 0, .slice none 0 0, .slice none 0 0, .slice none 0 0, .slice none 0 0, .slice none 0 0, .slice none 0 0, .slice none 0 0] 29)).alloc (Obj.cells #[.string (bsv s), .bool false, .slice none 0 0, .int .i64 0, .slice none 0 0, .slice none 0 0, .slice none 0 0, .slice none 0 0, .slice none 0 0, .slice none 0 0, .slice none 0 0] 80)) = V0 at *
 have HSZ := Lib.hid hsz
 have HBX0 := Lib.hid hbx1
 have HLO0 := Lib.hid lo1
 clear hsz hbx1 lo1 dl dl2 hz
 have hTH := thead_any (w.heap.size + 1) s Ag.aagW _ V0 hT0 (by have := HSL.out; omega)
 rw [show bsv Ag.aagW = ⟨#[97, 97, 103]⟩ from rfl] at hTH
 have HTH := Lib.hid hTH
 clear hTH hT0
 go_wp2_with fail
 refine HTH.out.mono ?_
 intro e w1 hP
 obtain ⟨hk1, hP⟩ := hP
 clear HTH
 have hsz0 := HSZ.out
 cases hho : Ag.headS Ag.aagW s with
 | none =>
  rw [hho] at hP
  subst hP
  have HPO : Hid (Ag.parseS s = .error 20) := by unfold Hid; rw [HPB.out, hho]
  have hbx1 := hk1.blkOf HBX0.out (by omega)
  have hlo1 := HLO0.out.trans (hk1.low (by omega) (by omega))
  clear hk1 hho HPB hsz0
  have hC9 : Blk ((((((((w1.setCell ⟨w.heap.size, 0, none⟩ (.int .i64 0)).setCell ⟨w.heap.size, 1, none⟩ (.slice none 0 0)).setCell ⟨w.heap.size, 2, none⟩ (.slice none 0 0)).setCell ⟨w.heap.size, 3, none⟩ (.slice none 0 0)).setCell ⟨w.heap.size, 4, none⟩ (.slice none 0 0)).setCell ⟨w.heap.size, 5, none⟩ (.slice none 0 0)).setCell ⟨w.heap.size, 6, none⟩ (.slice none 0 0)).setCell ⟨w.heap.size, 7, none⟩ (.slice none 0 0)) w.heap.size 29 #[.int .i64 0, .slice none 0 0, .slice none 0 0, .slice none 0 0, .slice none 0 0, .slice none 0 0, .slice none 0 0, .slice none 0 0] := ((((((((hbx1.put 0 (.int .i64 0)).put 1 (.slice none 0 0)).put 2 (.slice none 0 0)).put 3 (.slice none 0 0)).put 4 (.slice none 0 0)).put 5 (.slice none 0 0)).put 6 (.slice none 0 0)).put 7 (.slice none 0 0))
  have hlo9 : Below w.heap.size w ((((((((w1.setCell ⟨w.heap.size, 0, none⟩ (.int .i64 0)).setCell ⟨w.heap.size, 1, none⟩ (.slice none 0 0)).setCell ⟨w.heap.size, 2, none⟩ (.slice none 0 0)).setCell ⟨w.heap.size, 3, none⟩ (.slice none 0 0)).setCell ⟨w.heap.size, 4, none⟩ (.slice none 0 0)).setCell ⟨w.heap.size, 5, none⟩ (.slice none 0 0)).setCell ⟨w.heap.size, 6, none⟩ (.slice none 0 0)).setCell ⟨w.heap.size, 7, none⟩ (.slice none 0 0)) := ((((((((hlo1.setCell (p := ⟨w.heap.size, 0, none⟩) (Nat.le_refl _) (.int .i64 0)).setCell (p := ⟨w.heap.size, 1, none⟩) (Nat.le_refl _) (.slice none 0 0)).setCell (p := ⟨w.heap.size, 2, none⟩) (Nat.le_refl _) (.slice none 0 0)).setCell (p := ⟨w.heap.size, 3, none⟩) (Nat.le_refl _) (.slice none 0 0)).setCell (p := ⟨w.heap.size, 4, none⟩) (Nat.le_refl _) (.slice none 0 0)).setCell (p := ⟨w.heap.size, 5, none⟩) (Nat.le_refl _) (.slice none 0 0)).setCell (p := ⟨w.heap.size, 6, none⟩) (Nat.le_refl _) (.slice none 0 0)).setCell (p := ⟨w.heap.size, 7, none⟩) (Nat.le_refl _) (.slice none 0 0))
  have HC9 := Lib.hid hC9
  have HLO9 := Lib.hid hlo9
  clear hC9 hlo9
  have b0 := hbx1.cell 0
  have fb0 := hbx1.frozen 0
  have b1 := hbx1.cell 1
  have fb1 := hbx1.frozen 1
  have b2 := hbx1.cell 2
  have fb2 := hbx1.frozen 2
  have b3 := hbx1.cell 3
  have fb3 := hbx1.frozen 3
  have b4 := hbx1.cell 4
  have fb4 := hbx1.frozen 4
  have b5 := hbx1.cell 5
  have fb5 := hbx1.frozen 5
  have b6 := hbx1.cell 6
  have fb6 := hbx1.frozen 6
  have b7 := hbx1.cell 7
  have fb7 := hbx1.frozen 7
  simp only [zD, zE, zF] at b0 b1 b2 b3 b4 b5 b6 b7
  clear hbx1 hlo1
  go_wp2
  clear b0 fb0 b1 fb1 b2 fb2 b3 fb3 b4 fb4 b5 fb5 b6 fb6 b7 fb7
  generalize ((((((((w1.setCell ⟨w.heap.size, 0, none⟩ (.int .i64 0)).setCell ⟨w.heap.size, 1, none⟩ (.slice none 0 0)).setCell ⟨w.heap.size, 2, none⟩ (.slice none 0 0)).setCell ⟨w.heap.size, 3, none⟩ (.slice none 0 0)).setCell ⟨w.heap.size, 4, none⟩ (.slice none 0 0)).setCell ⟨w.heap.size, 5, none⟩ (.slice none 0 0)).setCell ⟨w.heap.size, 6, none⟩ (.slice none 0 0)).setCell ⟨w.heap.size, 7, none⟩ (.slice none 0 0)) = W9 at *
  have hC9 := HC9.out
  have hlo9 := HLO9.out
  have r0 := hC9.cell 0
  have r1 := hC9.cell 1
  have r2 := hC9.cell 2
  have r3 := hC9.cell 3
  have r4 := hC9.cell 4
  have r5 := hC9.cell 5
  have r6 := hC9.cell 6
  have r7 := hC9.cell 7
  simp only [zD, zE, zF] at r0 r1 r2 r3 r4 r5 r6 r7
  refine bodyPost_ret (v := .tuple #[.agg #[.int .i64 0, .slice none 0 0, .slice none 0 0, .slice none 0 0, .slice none 0 0, .slice none 0 0, .slice none 0 0, .slice none 0 0], .int .i64 20]) (by simp [results, Tryz.results20, go_sem, r0, r1, r2, r3, r4, r5, r6, r7]) rfl ?_
  unfold RParseP
  rw [HPO.out]
  exact ⟨rfl, hlo9⟩
 | some q =>
  obtain ⟨m, r⟩ := q
  rw [hho] at hP
  obtain ⟨rfl, hrl, gm, cM, hT1, hM1, hgm⟩ := hP
  obtain ⟨O, hO⟩ : ∃ O, O = Ag.bodyS m r := ⟨_, rfl⟩
  have HPO : Hid (Ag.parseS s = toldE O) := by unfold Hid; rw [HPB.out, hho, hO]
  have HO1 : Hid (O = Ag.insM (Ag.G1 m) (Ag.insS (Ag.ge m 1) 0 r)) := by
   unfold Hid
   rw [hO, Ag.body_one]
   rfl
  have HRL := Lib.hid hrl
  have hRV : w.heap.size + 1 < V0.heap.size := by omega
  have hM1n : Hid (Ag.ge m 1 ≤ 2000) := by have := (hM1.at 1 (by omega)).2; rw [Ag.pad_ge] at this; exact this
  clear hho HPB hO hrl
  go_upto_block 0 with fail
  go_cut [5] from 11 (fun _ wx => ∃ (s' : Ag.Bs) (b : Bool), s'.length ≤ s.length ∧ (O = if b = true then none else Ag.G1 m s') ∧ TK wx (w.heap.size + 1) s' b [.slice (some ⟨gm, 0, none⟩) 9 cM, .int .i64 (Ag.ge m 1 : Int), .slice none 0 0, .slice none 0 0, .slice none 0 0, .slice none 0 0, .slice none 0 0, .slice none 0 0, .slice none 0 0] ∧ RKeep (w.heap.size + 1) w1 wx)
  case first =>
   go_wp2_with fail
   go_loopw [5] (fun i wr => ∃ (j : Nat) (s' : Ag.Bs) (b : Bool), j ≤ Ag.ge m 1 ∧ i = .int .i64 (j : Int) ∧ s'.length ≤ s.length ∧ (O = if b = true then none else Ag.insM (Ag.G1 m) (Ag.insS (Ag.ge m 1 - j) j s')) ∧ TK wr (w.heap.size + 1) s' b [.slice (some ⟨gm, 0, none⟩) 9 cM, .int .i64 (Ag.ge m 1 : Int), .slice none 0 0, .slice none 0 0, .slice none 0 0, .slice none 0 0, .slice none 0 0, .slice none 0 0, .slice none 0 0] ∧ RKeep (w.heap.size + 1) w1 wr) (fun i _ => Ag.ge m 1 - (intOf i).toNat)
   case atStart => exact ⟨0, r, false, Nat.zero_le _, rfl, HRL.out, HO1.out, hT1, RKeep.refl _ _⟩
   clear hT1
   obtain ⟨j, s', b, hj, rfl, hs', hO, hT, hk⟩ := hrel
   have HON := Lib.hid hO
   have HSX := Lib.hid hs'
   have hMr := hM1.keep hk
   clear hO hs'
   have c1 := hT.c1
   have c2 : wr.cell? ⟨w.heap.size + 1, 2, none⟩ = some (.slice (some ⟨gm, 0, none⟩) 9 cM) := hT.cell 0
   obtain ⟨q1, hm1⟩ := hMr.at 1 (by omega)
   rw [Ag.pad_ge] at q1 hm1
   by_cases hlt : j < Ag.ge m 1
   ·
    have dl : decide ((j : Int) < (Ag.ge m 1 : Int)) = true := decide_eq_true (by omega)
    cases b with
    | true =>
     have HE : Hid (O = none) := HON.out
     go_wp2
     go_meet
     case rel => exact ⟨s', true, HSX.out, HE.out, hT, hk⟩
    | false =>
     obtain ⟨k, hk1'⟩ : ∃ k, Ag.ge m 1 - j = k + 1 := ⟨Ag.ge m 1 - j - 1, by omega⟩
     have HK1 := Lib.hid hk1'
     have HOS : Hid (O = match Ag.numL s' 1 1 with | some ([x], r) => if x = 2 * (j + 1) then Ag.insM (Ag.G1 m) (Ag.insS k (j + 1) r) else none | _ => none) := by
      unfold Hid
      rw [HON.out, hk1', Ag.ins_num]
      rfl
     have HNU := Lib.hid (tnums_any (w.heap.size + 1) s' false _ 1 1 wr hT (by have := HSL.out; have := HSX.out; omega) (by omega) (by omega))
     clear hk1' HON
     go_wp2_with fail
     refine HNU.out.mono ?_
     rintro e w2 ⟨v2, ys, rfl, hr2, hy1, hy5, hyr, hk2, hmt⟩
     obtain ⟨g, cy, rfl, hg0, hg1, hgc⟩ := row_ints hr2 (by omega)
     have hix := ixN0 g ys.length cy 0 (by omega) (by omega)
     have hc0 := hgc 0 (by omega)
     have hix0 : ∀ W, (Instr.indexAt 26 (.slice (some ⟨g, 0, none⟩) ys.length cy) (.int .i64 0)).run Tryz.prog W = .ok (.pointer (some ⟨g, 0, none⟩)) W := fun W => hix W
     have HNX : Hid (∃ s2 b2, s2.length ≤ s.length ∧ TK w2 (w.heap.size + 1) s2 b2 [.slice (some ⟨gm, 0, none⟩) 9 cM, .int .i64 (Ag.ge m 1 : Int), .slice none 0 0, .slice none 0 0, .slice none 0 0, .slice none 0 0, .slice none 0 0, .slice none 0 0, .slice none 0 0] ∧ (O = if (b2 || decide (ys[0] ≠ 2 * ((j : Int) + 1))) = true then none else Ag.insM (Ag.G1 m) (Ag.insS k (j + 1) s2))) := by
      cases hnl : Ag.numL s' 1 1 with
      | none =>
       rw [hnl] at hmt
       obtain ⟨s2, h1, h2⟩ := hmt
       refine ⟨s2, true, by have := HSX.out; omega, h2, ?_⟩
       rw [HOS.out, hnl]
       simp
      | some q =>
       obtain ⟨ns, r'⟩ := q
       rw [hnl] at hmt
       obtain ⟨⟨x, rfl⟩, hrl⟩ := num_one hnl
       obtain ⟨h1, h2⟩ := hmt
       subst h1
       refine ⟨r', false, by have := HSX.out; omega, h2, ?_⟩
       rw [HOS.out, hnl]
       have e : (natV [x] ++ List.replicate (1 - [x].length) 0)[0] = (x : Int) := rfl
       rw [e]
       by_cases hx : x = 2 * (j + 1)
       ·
        simp only
        rw [if_pos hx, if_neg (by simp; omega)]
       simp only
       rw [if_neg hx, if_pos (by simp; omega)]
     have hkt := hk.trans hk2
     clear hmt hT HNU HOS hgc hix hk2 hr2 hyr c1 c2 q1 hk hMr
     generalize ys[0] = y at *
     obtain ⟨s2, b2, n1, n2, n3⟩ := HNX.out
     have HN3 := Lib.hid n3
     have HN1 := Lib.hid n1
     clear HNX n3 n1
     by_cases hy : y = 2 * ((j : Int) + 1)
     ·
      have dy : (y != 2 * ((j : Int) + 1)) = false := by simp [hy]
      have HY := Lib.hid hy
      clear hy
      go_wp2
      constructor
      ·
       refine ⟨j + 1, s2, b2, by omega, by go_num, HN1.out, ?_, n2, hkt⟩
       have h3 := HN3.out
       have h4 := HK1.out
       rw [show Ag.ge m 1 - (j + 1) = k by omega, h3, HY.out]
       simp
      simp [intOf]; omega
     have dy : (y != 2 * ((j : Int) + 1)) = true := by simp [hy]
     have HY := Lib.hid hy
     have c1 := n2.c1
     have f1 := n2.fz 1
     have n2' := n2.mark true
     have hkt' := hkt.set (p := ⟨w.heap.size + 1, 1, none⟩) rfl (.bool true)
     clear hy n2 hkt
     go_wp2
     constructor
     ·
      refine ⟨j + 1, s2, true, by omega, by go_num, HN1.out, ?_, n2', hkt'⟩
      have h3 := HN3.out
      rw [h3]
      simp [HY.out]
     simp [intOf]; omega
   obtain rfl : j = Ag.ge m 1 := by omega
   have dl : decide (((Ag.ge m 1 : Nat) : Int) < (Ag.ge m 1 : Int)) = false := decide_eq_false (by omega)
   have HO2 : Hid (O = if b = true then none else Ag.G1 m s') := by
    unfold Hid
    rw [HON.out, Nat.sub_self, Ag.insS]
    rfl
   go_wp2
   go_meet
   case rel => exact ⟨s', b, HSX.out, HO2.out, hT, hk⟩
  obtain ⟨s1, b1, hs1, hO1, hT1c, hk1c⟩ := hcut
  have hkv := hk1.trans hk1c
  have hMc := hM1.keep hk1c
  have HS1 := Lib.hid hs1
  have HO2 : Hid (O = if b1 = true then none else Ag.latM [] (Ag.G2 m) (Ag.latsS true (Ag.ge m 2) (Ag.ge m 1) s1)) := hO1
  have HSZC : Hid (w.heap.size + 1 < wc.heap.size ∧ gm < wc.heap.size) := ⟨hT1c.lt, hMc.lt⟩
  clear hk1 hk1c hM1 hs1 hO1 hT1 HO1
  go_upto_block 2 with fail
  go_cut [6, 7, 8] from 11 (fun _ _ _ wx => ∃ (ls : List (Int × Int)) (vL : Value) (s' : Ag.Bs) (b : Bool), s'.length ≤ s.length ∧ (O = if b = true then none else Ag.G2 m ls s') ∧ ls.length ≤ 2000 ∧ (∀ q ∈ ls, (-1 ≤ q.1 ∧ q.1 ≤ 999999) ∧ (-1 ≤ q.2 ∧ q.2 ≤ 999999)) ∧ wx.ownsRow wc.heap.size 49 2 vL ls.length (flat ls) ∧ TK wx (w.heap.size + 1) s' b [.slice (some ⟨gm, 0, none⟩) 9 cM, .int .i64 (Ag.ge m 1 : Int), vL, .slice none 0 0, .slice none 0 0, .slice none 0 0, .slice none 0 0, .slice none 0 0, .slice none 0 0] ∧ RKeep (w.heap.size + 1) wc wx)
  case first =>
   go_wp2_with fail
   go_loopw [6, 7, 8] (fun i _ _ wr => ∃ (j : Nat) (ls : List (Int × Int)) (vL : Value) (s' : Ag.Bs) (b : Bool), j ≤ Ag.ge m 2 ∧ ls.length = j ∧ i = .int .i64 (j : Int) ∧ s'.length ≤ s.length ∧ (O = if b = true then none else Ag.latM ls (Ag.G2 m) (Ag.latsS true (Ag.ge m 2 - j) (Ag.ge m 1 + j) s')) ∧ (∀ q ∈ ls, (-1 ≤ q.1 ∧ q.1 ≤ 999999) ∧ (-1 ≤ q.2 ∧ q.2 ≤ 999999)) ∧ wr.ownsRow wc.heap.size 49 2 vL ls.length (flat ls) ∧ TK wr (w.heap.size + 1) s' b [.slice (some ⟨gm, 0, none⟩) 9 cM, .int .i64 (Ag.ge m 1 : Int), vL, .slice none 0 0, .slice none 0 0, .slice none 0 0, .slice none 0 0, .slice none 0 0, .slice none 0 0] ∧ RKeep (w.heap.size + 1) wc wr) (fun i _ _ _ => Ag.ge m 2 - (intOf i).toNat)
   case atStart => exact ⟨0, [], _, s1, b1, Nat.zero_le _, rfl, rfl, HS1.out, HO2.out, by simp, World.ownsRow_nil wc _ _ _, hT1c, RKeep.refl _ _⟩
   clear hT1c
   obtain ⟨j, ls, vL, s', b, hj, hlj, rfl, hs', hO, hlr, hrow, hT, hk⟩ := hrel
   have HON := Lib.hid hO
   have HSX := Lib.hid hs'
   have HLJ := Lib.hid hlj
   have HLR := Lib.hid hlr
   have hMr := hMc.keep hk
   clear hO hs' hlj hlr
   have c1 := hT.c1
   have c2 : wr.cell? ⟨w.heap.size + 1, 2, none⟩ = some (.slice (some ⟨gm, 0, none⟩) 9 cM) := hT.cell 0
   obtain ⟨q1, hm1⟩ := hMr.at 1 (by omega)
   obtain ⟨q2, hm2⟩ := hMr.at 2 (by omega)
   rw [Ag.pad_ge] at q1 hm1 q2 hm2
   have HLL : Hid (ls.length ≤ 2000) := by have := HLJ.out; unfold Hid; omega
   by_cases hlt : j < Ag.ge m 2
   ·
    have dl : decide ((j : Int) < (Ag.ge m 2 : Int)) = true := decide_eq_true (by omega)
    cases b with
    | true =>
     have HE : Hid (O = none) := HON.out
     go_wp2
     go_meet
     case rel => exact ⟨ls, vL, s', true, HSX.out, HE.out, HLL.out, HLR.out, hrow, hT, hk⟩
    | false =>
     obtain ⟨k, hk1'⟩ : ∃ k, Ag.ge m 2 - j = k + 1 := ⟨Ag.ge m 2 - j - 1, by omega⟩
     have HK1B : Hid (Ag.ge m 2 - (j + 1) = k) := by unfold Hid; omega
     have HOS : Hid (O = match Ag.numL s' 2 3 with
       | none => none
       | some (ns, r) => if ns.getD 0 0 = 2 * (Ag.ge m 1 + j + 1) then (match Ag.resetS (2 * (Ag.ge m 1 + j + 1)) (ns.getD 2 0) with | none => none | some q => Ag.latM (ls ++ [(((ns.getD 1 0 : Nat) : Int), q)]) (Ag.G2 m) (Ag.latsS true k (Ag.ge m 1 + j + 1) r)) else none) := by
      unfold Hid
      rw [HON.out, hk1', Ag.lat_num]
      rfl
     have HNU := Lib.hid (tnums_any (w.heap.size + 1) s' false _ 2 3 wr hT (by have := HSL.out; have := HSX.out; omega) (by omega) (by omega))
     clear hk1' HON
     go_wp2_with fail
     refine HNU.out.mono ?_
     rintro e w2 ⟨v2, ys, rfl, hr2, hy1, hy5, hyr, hk2, hmt⟩
     obtain ⟨g, cy, rfl, hg0, hg1, hgc⟩ := row_ints hr2 (by omega)
     have hix0 : ∀ W, (Instr.indexAt 26 (.slice (some ⟨g, 0, none⟩) ys.length cy) (.int .i64 0)).run Tryz.prog W = .ok (.pointer (some ⟨g, 0, none⟩)) W := fun W => ixN0 g ys.length cy 0 (by omega) (by omega) W
     have hix1 : ∀ W, (Instr.indexAt 26 (.slice (some ⟨g, 0, none⟩) ys.length cy) (.int .i64 1)).run Tryz.prog W = .ok (.pointer (some ⟨g, 1, none⟩)) W := fun W => ixN0 g ys.length cy 1 (by omega) (by omega) W
     have hix2 : ∀ W, (Instr.indexAt 26 (.slice (some ⟨g, 0, none⟩) ys.length cy) (.int .i64 2)).run Tryz.prog W = .ok (.pointer (some ⟨g, 2, none⟩)) W := fun W => ixN0 g ys.length cy 2 (by omega) (by omega) W
     have d0 := hgc 0 (by omega)
     have d1 := hgc 1 (by omega)
     have d2 := hgc 2 (by omega)
     have HY1 := Lib.hid (hyr ys[1] (List.getElem_mem _))
     have HY2 := Lib.hid (hyr ys[2] (List.getElem_mem _))
     have HNX : Hid (∃ s2 b2, s2.length ≤ s.length ∧ TK w2 (w.heap.size + 1) s2 b2 [.slice (some ⟨gm, 0, none⟩) 9 cM, .int .i64 (Ag.ge m 1 : Int), vL, .slice none 0 0, .slice none 0 0, .slice none 0 0, .slice none 0 0, .slice none 0 0, .slice none 0 0] ∧ (O = if ((b2 || decide (ys[0] ≠ (2 * ((Ag.ge m 1 : Int) + (j : Int) + 1)))) || badR (2 * ((Ag.ge m 1 : Int) + (j : Int) + 1)) ys[2]) = true then none else Ag.latM (ls ++ [(ys[1], kOf (2 * ((Ag.ge m 1 : Int) + (j : Int) + 1)) ys[2])]) (Ag.G2 m) (Ag.latsS true k (Ag.ge m 1 + j + 1) s2))) := by
      have hown : (2 * ((Ag.ge m 1 : Int) + (j : Int) + 1)) = ((2 * (Ag.ge m 1 + j + 1) : Nat) : Int) := by omega
      rw [hown]
      cases hnl : Ag.numL s' 2 3 with
      | none =>
       rw [hnl] at hmt
       obtain ⟨s2, h1, h2⟩ := hmt
       refine ⟨s2, true, by have := HSX.out; omega, h2, ?_⟩
       rw [HOS.out, hnl]
       simp
      | some q =>
       obtain ⟨ns, r'⟩ := q
       rw [hnl] at hmt
       obtain ⟨p1, p2, p3, _⟩ := Ag.numL_le hnl
       obtain ⟨h1, h2⟩ := hmt
       have e0 : ys[0] = ((ns.getD 0 0 : Nat) : Int) ∧ ys[1] = ((ns.getD 1 0 : Nat) : Int) ∧ ys[2] = ((ns.getD 2 0 : Nat) : Int) := by
        exact ⟨padv_at h1 p3 0 (by omega) _, padv_at h1 p3 1 (by omega) _, padv_at h1 p3 2 (by omega) _⟩
       obtain ⟨e0, e1, e2⟩ := e0
       refine ⟨r', false, by have := HSX.out; omega, h2, ?_⟩
       rw [HOS.out, hnl, e0, e1, e2]
       simp only
       have hsp := badR_spec (2 * (Ag.ge m 1 + j + 1)) (ns.getD 2 0) (by omega)
       by_cases hx : ns.getD 0 0 = 2 * (Ag.ge m 1 + j + 1)
       ·
        rw [if_pos hx, hx]
        cases hq : Ag.resetS (2 * (Ag.ge m 1 + j + 1)) (ns.getD 2 0) with
        | none =>
         rw [hq] at hsp
         rw [hsp]
         simp
        | some q =>
         rw [hq] at hsp
         rw [hsp.1, hsp.2]
         simp
       have hxx : decide (((ns.getD 0 0 : Nat) : Int) ≠ ((2 * (Ag.ge m 1 + j + 1) : Nat) : Int)) = true := decide_eq_true (by omega)
       rw [if_neg hx, hxx]
       simp
     have hkt := hk.trans hk2
     have hrow2 := row_kept hrow hk2 (by have := HSZC.out; omega)
     have HGL : Hid (∀ k, vL.ownBlock = some k → k < g) := fun k hk => Nat.lt_of_lt_of_le (row_lt hrow k hk) hg0
     have HGR : Hid (w.heap.size + 1 < g) := by have := hT.lt; unfold Hid; omega
     have HGW : Hid (g < w2.heap.size) := hg1
     have hms := hMr.keep hk2
     clear hmt hT HNU HOS hgc hk2 hr2 hyr c1 c2 q1 q2 hk hMr hrow hg0 hg1
     generalize ys[0] = y0 at *
     generalize ys[1] = y1 at *
     generalize ys[2] = y2 at *
     obtain ⟨s2, b2, n1, n2, n3⟩ := HNX.out
     have HN3 := Lib.hid n3
     have HN1 := Lib.hid n1
     clear HNX n3 n1 hms
     by_cases hy : y0 = (2 * ((Ag.ge m 1 : Int) + (j : Int) + 1))
     ·
      have dy : (y0 != (2 * ((Ag.ge m 1 : Int) + (j : Int) + 1))) = false := by simp [hy]
      have HY : Hid (decide (y0 ≠ (2 * ((Ag.ge m 1 : Int) + (j : Int) + 1))) = false) := decide_eq_false (by rw [hy]; simp)
      clear hy
      go_upto_region 18 with fail
      have hTW : TK w2.drew (w.heap.size + 1) s2 b2 [.slice (some ⟨gm, 0, none⟩) 9 cM, .int .i64 (Ag.ge m 1 : Int), vL, .slice none 0 0, .slice none 0 0, .slice none 0 0, .slice none 0 0, .slice none 0 0, .slice none 0 0] := n2
      have hrW : World.ownsRow w2.drew wc.heap.size 49 2 vL ls.length (flat ls) := hrow2
      have hkW : RKeep (w.heap.size + 1) wc w2.drew := ⟨hkt.os, hkt.tape, hkt.output, hkt.size, hkt.blk⟩
      have hsW : wc.heap.size ≤ w2.drew.heap.size := hkt.size
      have hd1 : w2.drew.cell? ⟨g, 1, none⟩ = some (.int .i64 y1) := d1
      have hd2 : w2.drew.cell? ⟨g, 2, none⟩ = some (.int .i64 y2) := d2
      have HGZ : Hid (g < w2.drew.heap.size) := HGW
      clear n2 hrow2 hkt d0 d1 d2
      have HRS := Lib.hid (treset_any (w.heap.size + 1) s2 b2 _ _ vL _ ls wc.heap.size (2 * ((Ag.ge m 1 : Int) + (j : Int) + 1)) y1 y2 w2.drew hTW hrW (by have := HSZC.out; omega) hsW (by have := HLL.out; omega))
      have hSW : (fun V : World => V.cell? ⟨g, 1, none⟩ = some (.int .i64 y1) ∧ V.cell? ⟨g, 2, none⟩ = some (.int .i64 y2)) w2.drew := ⟨hd1, hd2⟩
      have HRB := Lib.hid (row_base hrW)
      have HGN : Hid (∀ k, vL.ownBlock = some k → k < g) := HGL
      refine wp_region_held_drew (S := (fun V : World => V.cell? ⟨g, 1, none⟩ = some (.int .i64 y1) ∧ V.cell? ⟨g, 2, none⟩ = some (.int .i64 y2))) (by kernel_rfl) hSW (fun hHeld => ?_)
      refine zT 0 ⟨some 87, _, _, _, _, _⟩ ?_ rfl (by kernel_rfl) (fun _ _ _ h => h) (by rfl) hHeld ?_ ?_
      rotate_left
      ·
       rintro w ⟨s0, s1⟩
       first | (go_simp; done) | (go_simp; with_reducible rfl) | with_reducible rfl
      try simp only [Act.put, zA, zB, zC]
      refine zT 1 ⟨some 88, _, _, _, _, _⟩ ?_ rfl (by kernel_rfl) (fun _ _ _ h => h) (by rfl) hHeld ?_ ?_
      rotate_left
      ·
       rintro w ⟨s0, s1⟩
       first | (go_simp; done) | (go_simp; with_reducible rfl) | with_reducible rfl
      try simp only [Act.put, zA, zB, zC]
      refine zT 2 ⟨some 89, _, _, _, _, _⟩ ?_ rfl (by kernel_rfl) (fun _ _ _ h => h) (by rfl) hHeld ?_ ?_
      rotate_left
      ·
       rintro w ⟨s0, s1⟩
       first | (go_simp; done) | (go_simp; with_reducible rfl) | with_reducible rfl
      try simp only [Act.put, zA, zB, zC]
      refine zT 3 ⟨some 90, _, _, _, _, _⟩ ?_ rfl (by kernel_rfl) (fun _ _ _ h => h) (by rfl) hHeld ?_ ?_
      rotate_left
      ·
       rintro w ⟨s0, s1⟩
       first | (go_simp; done) | (go_simp; with_reducible rfl) | with_reducible rfl
      try simp only [Act.put, zA, zB, zC]
      refine zT 4 ⟨some 91, _, _, _, _, _⟩ ?_ rfl (by kernel_rfl) (fun _ _ _ h => h) (by rfl) hHeld ?_ ?_
      rotate_left
      ·
       rintro w ⟨s0, s1⟩
       first | (go_simp; done) | (go_simp; with_reducible rfl) | with_reducible rfl
      try simp only [Act.put, zA, zB, zC]
      refine zT 5 ⟨some 92, _, _, _, _, _⟩ ?_ rfl (by kernel_rfl) (fun _ _ _ h => h) (by rfl) hHeld ?_ ?_
      rotate_left
      ·
       rintro w ⟨s0, s1⟩
       first | (go_simp; done) | (go_simp; with_reducible rfl) | with_reducible rfl
      try simp only [Act.put, zA, zB, zC]
      refine zT 6 ⟨some 93, _, _, _, _, _⟩ ?_ rfl (by kernel_rfl) (fun _ _ _ h => h) (by rfl) hHeld ?_ ?_
      rotate_left
      ·
       rintro w ⟨s0, s1⟩
       first | (go_simp; done) | (go_simp; with_reducible rfl) | with_reducible rfl
      try simp only [Act.put, zA, zB, zC]
      refine zT 7 ⟨some 94, _, _, _, _, _⟩ ?_ rfl (by kernel_rfl) (fun _ _ _ h => h) (by rfl) hHeld ?_ ?_
      rotate_left
      ·
       rintro w ⟨s0, s1⟩
       first | (go_simp; done) | (go_simp; with_reducible rfl) | with_reducible rfl
      try simp only [Act.put, zA, zB, zC]
      refine wpAnyH_ready (rs := [8]) (by kernel_rfl) (by simp) ?_
      refine AllReadyH.cons (o := ⟨some 95, _, _, _, _, _⟩) rfl (fun K hK => ?_) AllReadyH.nil
      go_simp
      refine HRS.out.mono ?_
      rintro e w5 ⟨vL', rfl, hrow5, hT5, hx5⟩
      refine hK.out _ _ ?_ (fun hHeld => ?_)
      ·
       have hbk := hx5.blk g (by have := HGZ.out; exact this) (by have := HGR.out; omega) (fun e => by have := HGN.out g e.symm; omega)
       exact ⟨(World.cell?_of_block (w := w2.drew) (a := ⟨g, 1, none⟩) hbk).trans hd1, (World.cell?_of_block (w := w2.drew) (a := ⟨g, 2, none⟩) hbk).trans hd2⟩
      clear hK K
      try simp only [Act.put, zA, zB, zC]
      refine wpAnyH_done (by kernel_rfl) ?_ _
      have hk5 := hkW.x hx5 (fun g e => HRB.out g e)
      clear hTW hrW hkW hd1 hd2 hSW hHeld HRS
      go_wp2
      constructor
      ·
       refine ⟨j + 1, ls ++ [(y1, kOf (2 * ((Ag.ge m 1 : Int) + (j : Int) + 1)) y2)], vL', s2, b2 || badR (2 * ((Ag.ge m 1 : Int) + (j : Int) + 1)) y2, by omega, by simp [HLJ.out], by go_num, HN1.out, ?_, ?_, ?_, hT5, hk5⟩
       ·
        rw [HK1B.out, HN3.out, show Ag.ge m 1 + (j + 1) = Ag.ge m 1 + j + 1 by omega]
        rw [HY.out, Bool.or_false]
       ·
        intro q hq
        rcases List.mem_append.1 hq with hq | hq
        ·
         exact HLR.out q hq
        simp at hq
        subst hq
        have h1 := HY1.out
        have h2 := HY2.out
        refine ⟨h1, ?_⟩
        simp only
        unfold kOf
        split <;> omega
       rw [List.length_append]
       exact hrow5
      simp [intOf]; omega
     have dy : (y0 != (2 * ((Ag.ge m 1 : Int) + (j : Int) + 1))) = true := by simp [hy]
     have HY : Hid (decide (y0 ≠ (2 * ((Ag.ge m 1 : Int) + (j : Int) + 1))) = true) := decide_eq_true hy
     have c1 := n2.c1
     have f1 := n2.fz 1
     clear hy
     go_upto_region 18 with fail
     have n2' := n2.mark true
     have hkt' := hkt.set (p := ⟨w.heap.size + 1, 1, none⟩) rfl (.bool true)
     have hrow2' := row_set hrow2 (p := ⟨w.heap.size + 1, 1, none⟩) (by have := HSZC.out; simp only; omega) (.bool true)
     have d1' : (w2.setCell ⟨w.heap.size + 1, 1, none⟩ (.bool true)).cell? ⟨g, 1, none⟩ = some (.int .i64 y1) := (World.cell?_setCell_other _ _ _ _ (by have := HGR.out; first | (simp; done) | (simp; omega))).trans d1
     have d2' : (w2.setCell ⟨w.heap.size + 1, 1, none⟩ (.bool true)).cell? ⟨g, 2, none⟩ = some (.int .i64 y2) := (World.cell?_setCell_other _ _ _ _ (by have := HGR.out; first | (simp; done) | (simp; omega))).trans d2
     have HGW' : Hid (g < (w2.setCell ⟨w.heap.size + 1, 1, none⟩ (.bool true)).heap.size) := by unfold Hid; simpa using HGW.out
     clear n2 hrow2 hkt d0 d1 d2 c1 f1
     generalize w2.setCell ⟨w.heap.size + 1, 1, none⟩ (.bool true) = W at *
     have hTW : TK W.drew (w.heap.size + 1) s2 true [.slice (some ⟨gm, 0, none⟩) 9 cM, .int .i64 (Ag.ge m 1 : Int), vL, .slice none 0 0, .slice none 0 0, .slice none 0 0, .slice none 0 0, .slice none 0 0, .slice none 0 0] := n2'
     have hrW : World.ownsRow W.drew wc.heap.size 49 2 vL ls.length (flat ls) := hrow2'
     have hkW : RKeep (w.heap.size + 1) wc W.drew := ⟨hkt'.os, hkt'.tape, hkt'.output, hkt'.size, hkt'.blk⟩
     have hsW : wc.heap.size ≤ W.drew.heap.size := hkt'.size
     have hd1 : W.drew.cell? ⟨g, 1, none⟩ = some (.int .i64 y1) := d1'
     have hd2 : W.drew.cell? ⟨g, 2, none⟩ = some (.int .i64 y2) := d2'
     have HGZ : Hid (g < W.drew.heap.size) := HGW'
     clear n2' hrow2' hkt' d1' d2'

     have HRS := Lib.hid (treset_any (w.heap.size + 1) s2 true _ _ vL _ ls wc.heap.size (2 * ((Ag.ge m 1 : Int) + (j : Int) + 1)) y1 y2 W.drew hTW hrW (by have := HSZC.out; omega) hsW (by have := HLL.out; omega))
     have hSW : (fun V : World => V.cell? ⟨g, 1, none⟩ = some (.int .i64 y1) ∧ V.cell? ⟨g, 2, none⟩ = some (.int .i64 y2)) W.drew := ⟨hd1, hd2⟩
     have HRB := Lib.hid (row_base hrW)
     have HGN : Hid (∀ k, vL.ownBlock = some k → k < g) := HGL
     refine wp_region_held_drew (S := (fun V : World => V.cell? ⟨g, 1, none⟩ = some (.int .i64 y1) ∧ V.cell? ⟨g, 2, none⟩ = some (.int .i64 y2))) (by kernel_rfl) hSW (fun hHeld => ?_)
     refine zT 0 ⟨some 87, _, _, _, _, _⟩ ?_ rfl (by kernel_rfl) (fun _ _ _ h => h) (by rfl) hHeld ?_ ?_
     rotate_left
     ·
      rintro w ⟨s0, s1⟩
      first | (go_simp; done) | (go_simp; with_reducible rfl) | with_reducible rfl
     try simp only [Act.put, zA, zB, zC]
     refine zT 1 ⟨some 88, _, _, _, _, _⟩ ?_ rfl (by kernel_rfl) (fun _ _ _ h => h) (by rfl) hHeld ?_ ?_
     rotate_left
     ·
      rintro w ⟨s0, s1⟩
      first | (go_simp; done) | (go_simp; with_reducible rfl) | with_reducible rfl
     try simp only [Act.put, zA, zB, zC]
     refine zT 2 ⟨some 89, _, _, _, _, _⟩ ?_ rfl (by kernel_rfl) (fun _ _ _ h => h) (by rfl) hHeld ?_ ?_
     rotate_left
     ·
      rintro w ⟨s0, s1⟩
      first | (go_simp; done) | (go_simp; with_reducible rfl) | with_reducible rfl
     try simp only [Act.put, zA, zB, zC]
     refine zT 3 ⟨some 90, _, _, _, _, _⟩ ?_ rfl (by kernel_rfl) (fun _ _ _ h => h) (by rfl) hHeld ?_ ?_
     rotate_left
     ·
      rintro w ⟨s0, s1⟩
      first | (go_simp; done) | (go_simp; with_reducible rfl) | with_reducible rfl
     try simp only [Act.put, zA, zB, zC]
     refine zT 4 ⟨some 91, _, _, _, _, _⟩ ?_ rfl (by kernel_rfl) (fun _ _ _ h => h) (by rfl) hHeld ?_ ?_
     rotate_left
     ·
      rintro w ⟨s0, s1⟩
      first | (go_simp; done) | (go_simp; with_reducible rfl) | with_reducible rfl
     try simp only [Act.put, zA, zB, zC]
     refine zT 5 ⟨some 92, _, _, _, _, _⟩ ?_ rfl (by kernel_rfl) (fun _ _ _ h => h) (by rfl) hHeld ?_ ?_
     rotate_left
     ·
      rintro w ⟨s0, s1⟩
      first | (go_simp; done) | (go_simp; with_reducible rfl) | with_reducible rfl
     try simp only [Act.put, zA, zB, zC]
     refine zT 6 ⟨some 93, _, _, _, _, _⟩ ?_ rfl (by kernel_rfl) (fun _ _ _ h => h) (by rfl) hHeld ?_ ?_
     rotate_left
     ·
      rintro w ⟨s0, s1⟩
      first | (go_simp; done) | (go_simp; with_reducible rfl) | with_reducible rfl
     try simp only [Act.put, zA, zB, zC]
     refine zT 7 ⟨some 94, _, _, _, _, _⟩ ?_ rfl (by kernel_rfl) (fun _ _ _ h => h) (by rfl) hHeld ?_ ?_
     rotate_left
     ·
      rintro w ⟨s0, s1⟩
      first | (go_simp; done) | (go_simp; with_reducible rfl) | with_reducible rfl
     try simp only [Act.put, zA, zB, zC]
     refine wpAnyH_ready (rs := [8]) (by kernel_rfl) (by simp) ?_
     refine AllReadyH.cons (o := ⟨some 95, _, _, _, _, _⟩) rfl (fun K hK => ?_) AllReadyH.nil
     go_simp
     refine HRS.out.mono ?_
     rintro e w5 ⟨vL', rfl, hrow5, hT5, hx5⟩
     refine hK.out _ _ ?_ (fun hHeld => ?_)
     ·
      have hbk := hx5.blk g (by have := HGZ.out; exact this) (by have := HGR.out; omega) (fun e => by have := HGN.out g e.symm; omega)
      exact ⟨(World.cell?_of_block (w := W.drew) (a := ⟨g, 1, none⟩) hbk).trans hd1, (World.cell?_of_block (w := W.drew) (a := ⟨g, 2, none⟩) hbk).trans hd2⟩
     clear hK K
     try simp only [Act.put, zA, zB, zC]
     refine wpAnyH_done (by kernel_rfl) ?_ _
     have hk5 := hkW.x hx5 (fun g e => HRB.out g e)
     clear hTW hrW hkW hd1 hd2 hSW hHeld HRS
     go_wp2
     constructor
     ·
      refine ⟨j + 1, ls ++ [(y1, kOf (2 * ((Ag.ge m 1 : Int) + (j : Int) + 1)) y2)], vL', s2, true || badR (2 * ((Ag.ge m 1 : Int) + (j : Int) + 1)) y2, by omega, by simp [HLJ.out], by go_num, HN1.out, ?_, ?_, ?_, hT5, hk5⟩
      ·
       rw [HK1B.out, HN3.out, show Ag.ge m 1 + (j + 1) = Ag.ge m 1 + j + 1 by omega]
       rw [HY.out]
       simp
      ·
       intro q hq
       rcases List.mem_append.1 hq with hq | hq
       ·
        exact HLR.out q hq
       simp at hq
       subst hq
       have h1 := HY1.out
       have h2 := HY2.out
       refine ⟨h1, ?_⟩
       simp only
       unfold kOf
       split <;> omega
      rw [List.length_append]
      exact hrow5
     simp [intOf]; omega
   obtain rfl : j = Ag.ge m 2 := by omega
   have dl : decide (((Ag.ge m 2 : Nat) : Int) < (Ag.ge m 2 : Int)) = false := decide_eq_false (by omega)
   have HO3 : Hid (O = if b = true then none else Ag.G2 m ls s') := by
    unfold Hid
    rw [HON.out, Nat.sub_self, Ag.latsS]
    simp [Ag.latM]
   go_wp2
   go_meet
   case rel => exact ⟨ls, vL, s', b, HSX.out, HO3.out, HLL.out, HLR.out, hrow, hT, hk⟩
  obtain ⟨ls, vL, s1', b1', hs1', hO1', hll, hlr, hrowL, hT2c, hk2c⟩ := hcut
  have hkv2 := hkv.trans hk2c
  have hMc2 := hMc.keep hk2c
  have HLLS := Lib.hid hll
  have HLRS := Lib.hid hlr
  have hLr := row_more hrowL (b2 := w.heap.size + 2) (by have := HSZC.out; omega)
  have hLrr : wc.ownsRow (w.heap.size + 2) 49 2 vL ls.length (flat ls) := hLr
  have HO2x := Lib.hid hO1'
  have HS1' := Lib.hid hs1'
  clear hkv hk2c hMc hll hlr hrowL hO1' hs1' HO2 HSZC hLr
  have HCO := Lib.hid (tcols_any (w.heap.size + 1) gm cM s1' b1' (Ag.pad9 m) _ _ _ _ _ _ _ _ wc hT2c hMc2 (by have := HSL.out; have := HS1'.out; omega))
  have HSZC : Hid (w.heap.size + 2 ≤ wc.heap.size) := by have := hT2c.lt; unfold Hid; omega
  clear hT2c
  go_wp2_with fail
  refine HCO.out.mono ?_
  rintro e w3 ⟨vo, vb, vc, vf, zo, zb, zc, zf, s3, b3, rfl, io, ib, ic, if_, hk3, hs3, hT3, ho3⟩
  have hkv3 := hkv2.trans hk3
  have hM3 := hMc2.keep hk3
  have hL3 := row_kept hLrr hk3 (by omega)
  replace io := io.more HSZC.out
  replace ib := ib.more HSZC.out
  replace ic := ic.more HSZC.out
  replace if_ := if_.more HSZC.out
  rw [sigs_pad] at ho3
  have HO3 : Hid (O = if b3 = true then none else Ag.latM [] (Ag.G4 m ls (zo, zb, zc, zf)) (Ag.gatS (Ag.ge m 4) (Ag.ge m 1 + Ag.ge m 2) s3)) := by
   have h2 := HO2x.out
   unfold Hid
   rw [h2]
   cases b1' with
   | true =>
    rw [if_pos rfl] at ho3 ⊢
    cases b3 with
    | true => rfl
    | false => rw [if_neg (by simp)] at ho3; cases ho3
   | false =>
    rw [if_neg (by simp)] at ho3 ⊢
    unfold Ag.G2
    rw [ho3]
    cases b3 with
    | true => rfl
    | false => rfl
  have HS3 : Hid (s3.length ≤ s.length) := Nat.le_trans hs3 HS1'.out
  have HSZ3 : Hid (w.heap.size + 2 ≤ w3.heap.size ∧ gm < w3.heap.size) := ⟨Nat.le_trans HSZC.out hk3.size, hM3.lt⟩
  clear HCO ho3 hs3 hk3 hLrr hMc2 hkv2 HO2x HSZC
  have HSZC : Hid (w.heap.size + 1 < w3.heap.size) := by have := HSZ3.out; unfold Hid; omega
  go_upto_block 4 with fail
  go_cut [9, 10] from 11 (fun _ _ wx => ∃ (gs : List (Int × Int)) (vG : Value) (s' : Ag.Bs) (b : Bool), s'.length ≤ s.length ∧ (O = if b = true then none else Ag.G4 m ls (zo, zb, zc, zf) gs s') ∧ gs.length ≤ 2000 ∧ (∀ q ∈ gs, (-1 ≤ q.1 ∧ q.1 ≤ 999999) ∧ (-1 ≤ q.2 ∧ q.2 ≤ 999999)) ∧ wx.ownsRow w3.heap.size 57 2 vG gs.length (flat gs) ∧ TK wx (w.heap.size + 1) s' b [.slice (some ⟨gm, 0, none⟩) 9 cM, .int .i64 (Ag.ge m 1 : Int), vL, vG, vo, vb, vc, vf, .slice none 0 0] ∧ RKeep (w.heap.size + 1) w3 wx)
  case first =>
   clear hkv3 hL3 io ib ic if_
   go_wp2_with fail
   go_loopw [9, 10] (fun i _ wr => ∃ (j : Nat) (gs : List (Int × Int)) (vG : Value) (s' : Ag.Bs) (b : Bool), j ≤ Ag.ge m 4 ∧ gs.length = j ∧ i = .int .i64 (j : Int) ∧ s'.length ≤ s.length ∧ (O = if b = true then none else Ag.latM gs (Ag.G4 m ls (zo, zb, zc, zf)) (Ag.gatS (Ag.ge m 4 - j) (Ag.ge m 1 + Ag.ge m 2 + j) s')) ∧ (∀ q ∈ gs, (-1 ≤ q.1 ∧ q.1 ≤ 999999) ∧ (-1 ≤ q.2 ∧ q.2 ≤ 999999)) ∧ wr.ownsRow w3.heap.size 57 2 vG gs.length (flat gs) ∧ TK wr (w.heap.size + 1) s' b [.slice (some ⟨gm, 0, none⟩) 9 cM, .int .i64 (Ag.ge m 1 : Int), vL, vG, vo, vb, vc, vf, .slice none 0 0] ∧ RKeep (w.heap.size + 1) w3 wr) (fun i _ _ => Ag.ge m 4 - (intOf i).toNat)
   case atStart => exact ⟨0, [], _, s3, b3, Nat.zero_le _, rfl, rfl, HS3.out, HO3.out, by simp, World.ownsRow_nil w3 _ _ _, hT3, RKeep.refl _ _⟩
   clear hT3
   obtain ⟨j, gs, vG, s', b, hj, hlj, rfl, hs', hO, hlr, hrow, hT, hk⟩ := hrel
   have HON := Lib.hid hO
   have HSX := Lib.hid hs'
   have HLJ := Lib.hid hlj
   have HLR := Lib.hid hlr
   have hMr := hM3.keep hk
   clear hO hs' hlj hlr
   have c1 := hT.c1
   have c2 : wr.cell? ⟨w.heap.size + 1, 2, none⟩ = some (.slice (some ⟨gm, 0, none⟩) 9 cM) := hT.cell 0
   obtain ⟨q1, hm1⟩ := hMr.at 1 (by omega)
   obtain ⟨q2, hm2⟩ := hMr.at 2 (by omega)
   obtain ⟨q4, hm4⟩ := hMr.at 4 (by omega)
   rw [Ag.pad_ge] at q1 hm1 q2 hm2 q4 hm4
   have HLL : Hid (gs.length ≤ 2000) := by have := HLJ.out; unfold Hid; omega
   by_cases hlt : j < Ag.ge m 4
   ·
    have dl : decide ((j : Int) < (Ag.ge m 4 : Int)) = true := decide_eq_true (by omega)
    cases b with
    | true =>
     have HE : Hid (O = none) := HON.out
     go_wp2
     go_meet
     case rel => exact ⟨gs, vG, s', true, HSX.out, HE.out, HLL.out, HLR.out, hrow, hT, hk⟩
    | false =>
     obtain ⟨k, hk1'⟩ : ∃ k, Ag.ge m 4 - j = k + 1 := ⟨Ag.ge m 4 - j - 1, by omega⟩
     have HK1B : Hid (Ag.ge m 4 - (j + 1) = k) := by unfold Hid; omega
     have HOS : Hid (O = match Ag.numL s' 3 3 with
       | none => none
       | some (ns, r) => if ns.getD 0 0 = 2 * (Ag.ge m 1 + Ag.ge m 2 + j + 1) then Ag.latM (gs ++ [(((ns.getD 1 0 : Nat) : Int), ((ns.getD 2 0 : Nat) : Int))]) (Ag.G4 m ls (zo, zb, zc, zf)) (Ag.gatS k (Ag.ge m 1 + Ag.ge m 2 + j + 1) r) else none) := by
      unfold Hid
      rw [HON.out, hk1', Ag.gat_num]
      rfl
     have HNU := Lib.hid (tnums_any (w.heap.size + 1) s' false _ 3 3 wr hT (by have := HSL.out; have := HSX.out; omega) (by omega) (by omega))
     clear hk1' HON
     go_wp2_with fail
     refine HNU.out.mono ?_
     rintro e w2 ⟨v2, ys, rfl, hr2, hy1, hy5, hyr, hk2, hmt⟩
     obtain ⟨g, cy, rfl, hg0, hg1, hgc⟩ := row_ints hr2 (by omega)
     have hix0 : ∀ W, (Instr.indexAt 26 (.slice (some ⟨g, 0, none⟩) ys.length cy) (.int .i64 0)).run Tryz.prog W = .ok (.pointer (some ⟨g, 0, none⟩)) W := fun W => ixN0 g ys.length cy 0 (by omega) (by omega) W
     have hix1 : ∀ W, (Instr.indexAt 26 (.slice (some ⟨g, 0, none⟩) ys.length cy) (.int .i64 1)).run Tryz.prog W = .ok (.pointer (some ⟨g, 1, none⟩)) W := fun W => ixN0 g ys.length cy 1 (by omega) (by omega) W
     have hix2 : ∀ W, (Instr.indexAt 26 (.slice (some ⟨g, 0, none⟩) ys.length cy) (.int .i64 2)).run Tryz.prog W = .ok (.pointer (some ⟨g, 2, none⟩)) W := fun W => ixN0 g ys.length cy 2 (by omega) (by omega) W
     have d0 := hgc 0 (by omega)
     have d1 := hgc 1 (by omega)
     have d2 := hgc 2 (by omega)
     have HY1 := Lib.hid (hyr ys[1] (List.getElem_mem _))
     have HY2 := Lib.hid (hyr ys[2] (List.getElem_mem _))
     have HNX : Hid (∃ s2 b2, s2.length ≤ s.length ∧ TK w2 (w.heap.size + 1) s2 b2 [.slice (some ⟨gm, 0, none⟩) 9 cM, .int .i64 (Ag.ge m 1 : Int), vL, vG, vo, vb, vc, vf, .slice none 0 0] ∧ (O = if (b2 || decide (ys[0] ≠ (2 * ((Ag.ge m 1 : Int) + (Ag.ge m 2 : Int) + 1 + (j : Int))))) = true then none else Ag.latM (gs ++ [(ys[1], ys[2])]) (Ag.G4 m ls (zo, zb, zc, zf)) (Ag.gatS k (Ag.ge m 1 + Ag.ge m 2 + j + 1) s2))) := by
      have hown : (2 * ((Ag.ge m 1 : Int) + (Ag.ge m 2 : Int) + 1 + (j : Int))) = ((2 * (Ag.ge m 1 + Ag.ge m 2 + j + 1) : Nat) : Int) := by omega
      rw [hown]
      cases hnl : Ag.numL s' 3 3 with
      | none =>
       rw [hnl] at hmt
       obtain ⟨s2, h1, h2⟩ := hmt
       refine ⟨s2, true, by have := HSX.out; omega, h2, ?_⟩
       rw [HOS.out, hnl]
       simp
      | some q =>
       obtain ⟨ns, r'⟩ := q
       rw [hnl] at hmt
       obtain ⟨p1, p2, p3, _⟩ := Ag.numL_le hnl
       obtain ⟨h1, h2⟩ := hmt
       have e0 := padv_at h1 p3 0 (by omega) (by omega)
       have e1 := padv_at h1 p3 1 (by omega) (by omega)
       have e2 := padv_at h1 p3 2 (by omega) (by omega)
       refine ⟨r', false, by have := HSX.out; omega, h2, ?_⟩
       rw [HOS.out, hnl, e0, e1, e2]
       simp only
       by_cases hx : ns.getD 0 0 = 2 * (Ag.ge m 1 + Ag.ge m 2 + j + 1)
       ·
        rw [if_pos hx, hx]
        simp
       have hxx : decide (((ns.getD 0 0 : Nat) : Int) ≠ ((2 * (Ag.ge m 1 + Ag.ge m 2 + j + 1) : Nat) : Int)) = true := decide_eq_true (by omega)
       rw [if_neg hx, hxx]
       simp
     have hkt := hk.trans hk2
     have hrow2 := row_kept hrow hk2 HSZC.out
     have HGL : Hid (∀ k, vG.ownBlock = some k → k < g) := fun k hk => Nat.lt_of_lt_of_le (row_lt hrow k hk) hg0
     have HGR : Hid (w.heap.size + 1 < g) := by have := hT.lt; unfold Hid; omega
     have HGW : Hid (g < w2.heap.size) := hg1
     have hms := hMr.keep hk2
     have q1 := (hms.at 1 (by omega)).1
     have q2 := (hms.at 2 (by omega)).1
     rw [Ag.pad_ge] at q1 q2
     clear hmt hT HNU HOS hgc hk2 hr2 hyr c1 c2 q4 hk hMr hrow hg0 hg1 hms
     generalize ys[0] = y0 at *
     generalize ys[1] = y1 at *
     generalize ys[2] = y2 at *
     obtain ⟨s2, b2, n1, n2, n3⟩ := HNX.out
     have HN3 := Lib.hid n3
     have HN1 := Lib.hid n1
     clear HNX n3 n1
     have c2 : w2.cell? ⟨w.heap.size + 1, 2, none⟩ = some (.slice (some ⟨gm, 0, none⟩) 9 cM) := n2.cell 0
     go_upto_region 24 with fail
     go_cut [137] from 117 to 137 (fun s wx => s = .bool (y0 != (2 * ((Ag.ge m 1 : Int) + (Ag.ge m 2 : Int) + 1 + (j : Int)))) ∧ ∃ nq, wx = w2.drewN nq)
     case first =>
      go_quiet (fail)
      go_wp2
      go_meet
      case rel => exact ⟨rfl, _, rfl⟩
     obtain ⟨rfl, nq, rfl⟩ := hcut
     have n2 : TK (w2.drewN nq) (w.heap.size + 1) s2 b2 [.slice (some ⟨gm, 0, none⟩) 9 cM, .int .i64 (Ag.ge m 1 : Int), vL, vG, vo, vb, vc, vf, .slice none 0 0] := n2
     have hrow2 : World.ownsRow (w2.drewN nq) w3.heap.size 57 2 vG gs.length (flat gs) := hrow2
     have hkt : RKeep (w.heap.size + 1) w3 (w2.drewN nq) := ⟨hkt.os, hkt.tape, hkt.output, hkt.size, hkt.blk⟩
     have d1 : (w2.drewN nq).cell? ⟨g, 1, none⟩ = some (.int .i64 y1) := d1
     have d2 : (w2.drewN nq).cell? ⟨g, 2, none⟩ = some (.int .i64 y2) := d2
     have HGW : Hid (g < (w2.drewN nq).heap.size) := HGW
     clear c2 q1 q2 d0
     generalize w2.drewN nq = W2 at *
     by_cases hy : y0 = (2 * ((Ag.ge m 1 : Int) + (Ag.ge m 2 : Int) + 1 + (j : Int)))
     ·
      have dy : (y0 != (2 * ((Ag.ge m 1 : Int) + (Ag.ge m 2 : Int) + 1 + (j : Int)))) = false := by simp [hy]
      have HY : Hid (decide (y0 ≠ (2 * ((Ag.ge m 1 : Int) + (Ag.ge m 2 : Int) + 1 + (j : Int)))) = false) := decide_eq_false (by rw [hy]; simp)
      clear hy
      go_upto_region 26 with fail
      obtain ⟨W6, hW6⟩ : ∃ W6, W6 = W2 := ⟨_, rfl⟩
      rw [← hW6] at n2 hrow2 hkt d1 d2 HGW
      rw [← hW6]
      clear hW6
      have hTW := n2
      have hrW := hrow2
      have hkW := hkt
      have hd1 := d1
      have hd2 := d2
      have HGZ := HGW
      clear n2 hrow2 hkt d1 d2
      obtain ⟨AG, cG, hsl⟩ := row_slice hrW
      subst hsl
      have HSW : Hid (∀ V : World, (∀ b, b < W6.heap.size → b ≠ w.heap.size + 1 → some b ≠ (Value.slice AG gs.length cG).ownBlock → V.heap[b]? = W6.heap[b]?) → (fun V : World => V.cell? ⟨g, 1, none⟩ = some (.int .i64 y1) ∧ V.cell? ⟨g, 2, none⟩ = some (.int .i64 y2)) V) := by
       intro V hV
       have hbk := hV g HGZ.out (by have := HGR.out; omega) (fun e => by have := HGL.out g e.symm; omega)
       exact ⟨(World.cell?_of_block (w := W6) (a := ⟨g, 1, none⟩) hbk).trans hd1, (World.cell?_of_block (w := W6) (a := ⟨g, 2, none⟩) hbk).trans hd2⟩
      have HB0 : Hid (∀ b, b < W6.heap.size → b ≠ w.heap.size + 1 → some b ≠ (Value.slice AG gs.length cG).ownBlock → W6.drew.heap[b]? = W6.heap[b]?) := fun _ _ _ _ => rfl
      have c5 : W6.drew.cell? ⟨w.heap.size + 1, 5, none⟩ = some (.slice AG gs.length cG) := hTW.cell 3
      clear hd1 hd2
      refine wp_region_held_drew (S := (fun V : World => V.cell? ⟨g, 1, none⟩ = some (.int .i64 y1) ∧ V.cell? ⟨g, 2, none⟩ = some (.int .i64 y2))) (by kernel_rfl) (HSW.out _ HB0.out) (fun hHeld => ?_)
      refine zT 0 ⟨some 141, _, _, _, _, _⟩ ?_ rfl (by kernel_rfl) (fun _ _ _ h => h) (by rfl) hHeld ?_ ?_
      rotate_left
      ·
       rintro w ⟨s0, s1⟩
       first | (go_simp; done) | (go_simp; with_reducible rfl) | with_reducible rfl
      try simp only [Act.put, zA, zB, zC]
      refine zT 1 ⟨some 142, _, _, _, _, _⟩ ?_ rfl (by kernel_rfl) (fun _ _ _ h => h) (by rfl) hHeld ?_ ?_
      rotate_left
      ·
       rintro w ⟨s0, s1⟩
       first | (go_simp; done) | (go_simp; with_reducible rfl) | with_reducible rfl
      try simp only [Act.put, zA, zB, zC]
      refine zT 2 ⟨some 143, _, _, _, _, _⟩ ?_ rfl (by kernel_rfl) (fun _ _ _ h => h) (by rfl) hHeld ?_ ?_
      rotate_left
      ·
       rintro w ⟨s0, s1⟩
       first | (go_simp; done) | (go_simp; with_reducible rfl) | with_reducible rfl
      try simp only [Act.put, zA, zB, zC]
      refine zT 3 ⟨some 144, _, _, _, _, _⟩ ?_ rfl (by kernel_rfl) (fun _ _ _ h => h) (by rfl) hHeld ?_ ?_
      rotate_left
      ·
       rintro w ⟨s0, s1⟩
       first | (go_simp; done) | (go_simp; with_reducible rfl) | with_reducible rfl
      try simp only [Act.put, zA, zB, zC]
      refine zT 4 ⟨some 145, _, _, _, _, _⟩ ?_ rfl (by kernel_rfl) (fun _ _ _ h => h) (by rfl) hHeld ?_ ?_
      rotate_left
      ·
       rintro w ⟨s0, s1⟩
       first | (go_simp; done) | (go_simp; with_reducible rfl) | with_reducible rfl
      try simp only [Act.put, zA, zB, zC]
      refine zT 6 ⟨some 147, _, _, _, _, _⟩ ?_ rfl (by kernel_rfl) (fun _ _ _ h => h) (by rfl) hHeld ?_ ?_
      rotate_left
      ·
       rintro w ⟨s0, s1⟩
       first | (go_simp; done) | (go_simp; with_reducible rfl) | with_reducible rfl
      try simp only [Act.put, zA, zB, zC]
      refine zT 7 ⟨some 148, _, _, _, _, _⟩ ?_ rfl (by kernel_rfl) (fun _ _ _ h => h) (by rfl) hHeld ?_ ?_
      rotate_left
      ·
       rintro w ⟨s0, s1⟩
       first | (go_simp; done) | (go_simp; with_reducible rfl) | with_reducible rfl
      try simp only [Act.put, zA, zB, zC]
      refine zT 8 ⟨some 149, _, _, _, _, _⟩ ?_ rfl (by kernel_rfl) (fun _ _ _ h => h) (by rfl) hHeld ?_ ?_
      rotate_left
      ·
       rintro w ⟨s0, s1⟩
       first | (go_simp; done) | (go_simp; with_reducible rfl) | with_reducible rfl
      try simp only [Act.put, zA, zB, zC]
      refine zT 9 ⟨some 150, _, _, _, _, _⟩ ?_ rfl (by kernel_rfl) (fun _ _ _ h => h) (by rfl) hHeld ?_ ?_
      rotate_left
      ·
       rintro w ⟨s0, s1⟩
       first | (go_simp; done) | (go_simp; with_reducible rfl) | with_reducible rfl
      try simp only [Act.put, zA, zB, zC]
      refine zT 10 ⟨some 151, _, _, _, _, _⟩ ?_ rfl (by kernel_rfl) (fun _ _ _ h => h) (by rfl) hHeld ?_ ?_
      rotate_left
      ·
       rintro w ⟨s0, s1⟩
       first | (go_simp; done) | (go_simp; with_reducible rfl) | with_reducible rfl
      try simp only [Act.put, zA, zB, zC]
      refine zT 11 ⟨some 152, _, _, _, _, _⟩ ?_ rfl (by kernel_rfl) (fun _ _ _ h => h) (by rfl) hHeld ?_ ?_
      rotate_left
      ·
       rintro w ⟨s0, s1⟩
       first | (go_simp; done) | (go_simp; with_reducible rfl) | with_reducible rfl
      try simp only [Act.put, zA, zB, zC]
      refine zT 12 ⟨some 153, _, _, _, _, _⟩ ?_ rfl (by kernel_rfl) (fun _ _ _ h => h) (by rfl) hHeld ?_ ?_
      rotate_left
      ·
       rintro w ⟨s0, s1⟩
       first | (go_simp; done) | (go_simp; with_reducible rfl) | with_reducible rfl
      try simp only [Act.put, zA, zB, zC]
      refine wpAnyH_ready (rs := [5, 13]) (by kernel_rfl) (by simp) ?_
      refine (AllReadyH.cons (o := ⟨some 146, _, _, _, _, _⟩) rfl (fun K hK => ?_) (AllReadyH.cons (o := ⟨some 154, _, _, _, _, _⟩) rfl (fun K hK => ?_) AllReadyH.nil))
      ·
       go_simp
       refine hK.out _ _ ?_ (fun hHeld => ?_)
       ·
        exact HSW.out _ HB0.out
       clear hK K
       try simp only [Act.put, zA, zB, zC]
       refine wpAnyH_ready (rs := [13]) (by kernel_rfl) (by simp) ?_
       refine AllReadyH.cons (o := ⟨some 154, _, _, _, _, _⟩) rfl (fun K hK => ?_) AllReadyH.nil
       go_simp
       have hlow := lowAlloc W6 (Obj.cells #[.int .i64 y1, .int .i64 y2] 57)
       have hbk := Blk.new W6 57 #[.int .i64 y1, .int .i64 y2]
       have hT4 : TK (W6.alloc (Obj.cells #[.int .i64 y1, .int .i64 y2] 57)).drew (w.heap.size + 1) s2 b2 [.slice (some ⟨gm, 0, none⟩) 9 cM, .int .i64 (Ag.ge m 1 : Int), vL, .slice AG gs.length cG, vo, vb, vc, vf, .slice none 0 0] := hTW.keep hlow.drew
       have hrow4 : World.ownsRow (W6.alloc (Obj.cells #[.int .i64 y1, .int .i64 y2] 57)).drew w3.heap.size 57 2 (.slice AG gs.length cG) gs.length (flat gs) := World.ownsRow.alloc hrW (Obj.cells #[.int .i64 y1, .int .i64 y2] 57)
       have hk4 : RKeep (w.heap.size + 1) w3 (W6.alloc (Obj.cells #[.int .i64 y1, .int .i64 y2] 57)).drew := (fun (k : RKeep (w.heap.size + 1) w3 (W6.alloc (Obj.cells #[.int .i64 y1, .int .i64 y2] 57))) => ⟨k.os, k.tape, k.output, k.size, k.blk⟩) (hkW.below hlow)
       have HB4 : Hid (∀ b, b < W6.heap.size → b ≠ w.heap.size + 1 → some b ≠ (Value.slice AG gs.length cG).ownBlock → (W6.alloc (Obj.cells #[.int .i64 y1, .int .i64 y2] 57)).drew.heap[b]? = W6.heap[b]?) := fun b hb _ _ => hlow.block b hb
       have c5 : (W6.alloc (Obj.cells #[.int .i64 y1, .int .i64 y2] 57)).drew.cell? ⟨w.heap.size + 1, 5, none⟩ = some (.slice AG gs.length cG) := hT4.cell 3
       refine hK.out _ _ ?_ (fun hHeld => ?_)
       ·
        exact HSW.out _ HB4.out
       clear hK K
       try simp only [Act.put, zA, zB, zC]
       refine wpAnyH_ready (rs := [14]) (by kernel_rfl) (by simp) ?_
       refine AllReadyH.cons (o := ⟨some 155, _, _, _, _, _⟩) rfl (fun K hK => ?_) AllReadyH.nil
       rw [if_pos (by rfl)]
       refine oper_app (.tmp 146) (.tmp 154) 25 rfl (.slice AG gs.length cG) (.slice (some ⟨W6.heap.size, 0, none⟩) 1 1) rfl rfl (fun v' w' => w'.ownsRow w3.heap.size 57 2 v' (gs.length + 1) (flat gs ++ [.int .i64 y1, .int .i64 y2]) ∧ (W6.alloc (Obj.cells #[.int .i64 y1, .int .i64 y2] 57)).drew.grownBy w' (Value.slice AG gs.length cG).ownBlock) (fun ty => (by obtain ⟨v', w', r1, r2, r3, _⟩ := app_gate (W6.alloc (Obj.cells #[.int .i64 y1, .int .i64 y2] 57)).drew w3.heap.size ty (.slice AG gs.length cG) gs.length _ hrow4 W6.heap.size 1 y1 y2 hbk (by have := HLL.out; omega) (by have := hkW.size; simp; omega); exact ⟨v', w', r1, r2, r3⟩)) ?_
       intro v' w10 hR10
       obtain ⟨AL, cL, rfl⟩ := row_slice hR10.1
       have HRB := Lib.hid (row_base hrow4)
       have hT5 : TK w10 (w.heap.size + 1) s2 b2 _ := hT4.grown hR10.2 (fun e => by have := HRB.out _ e.symm; have := HSZC.out; omega)
       have hk5 := hk4.grown hR10.2 (fun g e => HRB.out g e)
       have HB5 : Hid (∀ b, b < W6.heap.size → b ≠ w.heap.size + 1 → some b ≠ (Value.slice AG gs.length cG).ownBlock → w10.heap[b]? = W6.heap[b]?) := fun b hb h1 h2 => (hR10.2.block b (by simp; omega) h2).trans (HB4.out b hb h1 h2)
       have hU := hT5.put 3 (.slice AL (gs.length + 1) cL)
       simp only [List.set_cons_succ, List.set_cons_zero] at hU
       have hk6 := hk5.set (p := ⟨w.heap.size + 1, 5, none⟩) rfl (.slice AL (gs.length + 1) cL)
       have hrow6 := row_set hR10.1 (p := ⟨w.heap.size + 1, 5, none⟩) (by have := HSZC.out; simp only; omega) (.slice AL (gs.length + 1) cL)
       have c5 : w10.cell? ⟨w.heap.size + 1, 5, none⟩ = some (.slice AG gs.length cG) := hT5.cell 3
       have f5 := hT5.fz 5
       have HB6 : Hid (∀ b, b < W6.heap.size → b ≠ w.heap.size + 1 → some b ≠ (Value.slice AG gs.length cG).ownBlock → (w10.setCell ⟨w.heap.size + 1, 5, none⟩ (.slice AL (gs.length + 1) cL)).heap[b]? = W6.heap[b]?) := fun b hb h1 h2 => (Below.heap_setCell w10 ⟨w.heap.size + 1, 5, none⟩ _ b (by simp only; omega)).trans (HB5.out b hb h1 h2)
       refine hK.out _ _ ?_ (fun hHeld => ?_)
       ·
        exact HSW.out _ HB5.out
       clear hK K
       try simp only [Act.put, zA, zB, zC]
       refine zT 15 ⟨some 156, _, _, _, _, _⟩ ?_ rfl (by kernel_rfl) (fun _ _ _ h => h) (by rfl) hHeld ?_ ?_
       rotate_left
       ·
        rintro w ⟨s0, s1⟩
        first | (go_simp; done) | (go_simp; with_reducible rfl) | with_reducible rfl
       try simp only [Act.put, zA, zB, zC]
       refine zT 16 ⟨some 157, _, _, _, _, _⟩ ?_ rfl (by kernel_rfl) (fun _ _ _ h => h) (by rfl) hHeld ?_ ?_
       rotate_left
       ·
        rintro w ⟨s0, s1⟩
        first | (go_simp; done) | (go_simp; with_reducible rfl) | with_reducible rfl
       try simp only [Act.put, zA, zB, zC]
       refine zT 17 ⟨some 158, _, _, _, _, _⟩ ?_ rfl (by kernel_rfl) (fun _ _ _ h => h) (by rfl) hHeld ?_ ?_
       rotate_left
       ·
        rintro w ⟨s0, s1⟩
        first | (go_simp; done) | (go_simp; with_reducible rfl) | with_reducible rfl
       try simp only [Act.put, zA, zB, zC]
       refine wpAnyH_ready (rs := [18]) (by kernel_rfl) (by simp) ?_
       refine AllReadyH.cons (o := ⟨none, _, _, _, _, _⟩) rfl (fun K hK => ?_) AllReadyH.nil
       go_simp
       refine hK.out _ _ ?_ (fun hHeld => ?_)
       ·
        exact HSW.out _ HB6.out
       clear hK K
       try simp only [Act.put, zA, zB, zC]
       refine wpAnyH_done (by kernel_rfl) ?_ _
       clear hT4 hT5 hTW hk4 hk5 hrow4 hR10 hHeld c5 f5 hkW hrW
       go_wp2
       constructor
       ·
        refine ⟨j + 1, gs ++ [(y1, y2)], .slice AL (gs.length + 1) cL, s2, b2, by omega, by simp [HLJ.out], by go_num, HN1.out, ?_, ?_, by rw [List.length_append, flat_snoc]; exact hrow6, hU, hk6⟩
        ·
         rw [HK1B.out, HN3.out, show Ag.ge m 1 + Ag.ge m 2 + (j + 1) = Ag.ge m 1 + Ag.ge m 2 + j + 1 by omega]
         rw [HY.out, Bool.or_false]
        intro q hq
        rcases List.mem_append.1 hq with hq | hq
        ·
         exact HLR.out q hq
        simp at hq
        subst hq
        exact ⟨HY1.out, HY2.out⟩
       simp [intOf]; omega
      go_simp
      have hlow := lowAlloc W6 (Obj.cells #[.int .i64 y1, .int .i64 y2] 57)
      have hbk := Blk.new W6 57 #[.int .i64 y1, .int .i64 y2]
      have hT4 : TK (W6.alloc (Obj.cells #[.int .i64 y1, .int .i64 y2] 57)).drew (w.heap.size + 1) s2 b2 [.slice (some ⟨gm, 0, none⟩) 9 cM, .int .i64 (Ag.ge m 1 : Int), vL, .slice AG gs.length cG, vo, vb, vc, vf, .slice none 0 0] := hTW.keep hlow.drew
      have hrow4 : World.ownsRow (W6.alloc (Obj.cells #[.int .i64 y1, .int .i64 y2] 57)).drew w3.heap.size 57 2 (.slice AG gs.length cG) gs.length (flat gs) := World.ownsRow.alloc hrW (Obj.cells #[.int .i64 y1, .int .i64 y2] 57)
      have hk4 : RKeep (w.heap.size + 1) w3 (W6.alloc (Obj.cells #[.int .i64 y1, .int .i64 y2] 57)).drew := (fun (k : RKeep (w.heap.size + 1) w3 (W6.alloc (Obj.cells #[.int .i64 y1, .int .i64 y2] 57))) => ⟨k.os, k.tape, k.output, k.size, k.blk⟩) (hkW.below hlow)
      have HB4 : Hid (∀ b, b < W6.heap.size → b ≠ w.heap.size + 1 → some b ≠ (Value.slice AG gs.length cG).ownBlock → (W6.alloc (Obj.cells #[.int .i64 y1, .int .i64 y2] 57)).drew.heap[b]? = W6.heap[b]?) := fun b hb _ _ => hlow.block b hb
      have c5 : (W6.alloc (Obj.cells #[.int .i64 y1, .int .i64 y2] 57)).drew.cell? ⟨w.heap.size + 1, 5, none⟩ = some (.slice AG gs.length cG) := hT4.cell 3
      refine hK.out _ _ ?_ (fun hHeld => ?_)
      ·
       exact HSW.out _ HB4.out
      clear hK K
      try simp only [Act.put, zA, zB, zC]
      refine wpAnyH_ready (rs := [5]) (by kernel_rfl) (by simp) ?_
      refine AllReadyH.cons (o := ⟨some 146, _, _, _, _, _⟩) rfl (fun K hK => ?_) AllReadyH.nil
      go_simp
      refine hK.out _ _ ?_ (fun hHeld => ?_)
      ·
       exact HSW.out _ HB4.out
      clear hK K
      try simp only [Act.put, zA, zB, zC]
      refine wpAnyH_ready (rs := [14]) (by kernel_rfl) (by simp) ?_
      refine AllReadyH.cons (o := ⟨some 155, _, _, _, _, _⟩) rfl (fun K hK => ?_) AllReadyH.nil
      rw [if_pos (by rfl)]
      refine oper_app (.tmp 146) (.tmp 154) 25 rfl (.slice AG gs.length cG) (.slice (some ⟨W6.heap.size, 0, none⟩) 1 1) rfl rfl (fun v' w' => w'.ownsRow w3.heap.size 57 2 v' (gs.length + 1) (flat gs ++ [.int .i64 y1, .int .i64 y2]) ∧ (W6.alloc (Obj.cells #[.int .i64 y1, .int .i64 y2] 57)).drew.grownBy w' (Value.slice AG gs.length cG).ownBlock) (fun ty => (by obtain ⟨v', w', r1, r2, r3, _⟩ := app_gate (W6.alloc (Obj.cells #[.int .i64 y1, .int .i64 y2] 57)).drew w3.heap.size ty (.slice AG gs.length cG) gs.length _ hrow4 W6.heap.size 1 y1 y2 hbk (by have := HLL.out; omega) (by have := hkW.size; simp; omega); exact ⟨v', w', r1, r2, r3⟩)) ?_
      intro v' w10 hR10
      obtain ⟨AL, cL, rfl⟩ := row_slice hR10.1
      have HRB := Lib.hid (row_base hrow4)
      have hT5 : TK w10 (w.heap.size + 1) s2 b2 _ := hT4.grown hR10.2 (fun e => by have := HRB.out _ e.symm; have := HSZC.out; omega)
      have hk5 := hk4.grown hR10.2 (fun g e => HRB.out g e)
      have HB5 : Hid (∀ b, b < W6.heap.size → b ≠ w.heap.size + 1 → some b ≠ (Value.slice AG gs.length cG).ownBlock → w10.heap[b]? = W6.heap[b]?) := fun b hb h1 h2 => (hR10.2.block b (by simp; omega) h2).trans (HB4.out b hb h1 h2)
      have hU := hT5.put 3 (.slice AL (gs.length + 1) cL)
      simp only [List.set_cons_succ, List.set_cons_zero] at hU
      have hk6 := hk5.set (p := ⟨w.heap.size + 1, 5, none⟩) rfl (.slice AL (gs.length + 1) cL)
      have hrow6 := row_set hR10.1 (p := ⟨w.heap.size + 1, 5, none⟩) (by have := HSZC.out; simp only; omega) (.slice AL (gs.length + 1) cL)
      have c5 : w10.cell? ⟨w.heap.size + 1, 5, none⟩ = some (.slice AG gs.length cG) := hT5.cell 3
      have f5 := hT5.fz 5
      have HB6 : Hid (∀ b, b < W6.heap.size → b ≠ w.heap.size + 1 → some b ≠ (Value.slice AG gs.length cG).ownBlock → (w10.setCell ⟨w.heap.size + 1, 5, none⟩ (.slice AL (gs.length + 1) cL)).heap[b]? = W6.heap[b]?) := fun b hb h1 h2 => (Below.heap_setCell w10 ⟨w.heap.size + 1, 5, none⟩ _ b (by simp only; omega)).trans (HB5.out b hb h1 h2)
      refine hK.out _ _ ?_ (fun hHeld => ?_)
      ·
       exact HSW.out _ HB5.out
      clear hK K
      try simp only [Act.put, zA, zB, zC]
      refine zT 15 ⟨some 156, _, _, _, _, _⟩ ?_ rfl (by kernel_rfl) (fun _ _ _ h => h) (by rfl) hHeld ?_ ?_
      rotate_left
      ·
       rintro w ⟨s0, s1⟩
       first | (go_simp; done) | (go_simp; with_reducible rfl) | with_reducible rfl
      try simp only [Act.put, zA, zB, zC]
      refine zT 16 ⟨some 157, _, _, _, _, _⟩ ?_ rfl (by kernel_rfl) (fun _ _ _ h => h) (by rfl) hHeld ?_ ?_
      rotate_left
      ·
       rintro w ⟨s0, s1⟩
       first | (go_simp; done) | (go_simp; with_reducible rfl) | with_reducible rfl
      try simp only [Act.put, zA, zB, zC]
      refine zT 17 ⟨some 158, _, _, _, _, _⟩ ?_ rfl (by kernel_rfl) (fun _ _ _ h => h) (by rfl) hHeld ?_ ?_
      rotate_left
      ·
       rintro w ⟨s0, s1⟩
       first | (go_simp; done) | (go_simp; with_reducible rfl) | with_reducible rfl
      try simp only [Act.put, zA, zB, zC]
      refine wpAnyH_ready (rs := [18]) (by kernel_rfl) (by simp) ?_
      refine AllReadyH.cons (o := ⟨none, _, _, _, _, _⟩) rfl (fun K hK => ?_) AllReadyH.nil
      go_simp
      refine hK.out _ _ ?_ (fun hHeld => ?_)
      ·
       exact HSW.out _ HB6.out
      clear hK K
      try simp only [Act.put, zA, zB, zC]
      refine wpAnyH_done (by kernel_rfl) ?_ _
      clear hT4 hT5 hTW hk4 hk5 hrow4 hR10 hHeld c5 f5 hkW hrW
      go_wp2
      constructor
      ·
       refine ⟨j + 1, gs ++ [(y1, y2)], .slice AL (gs.length + 1) cL, s2, b2, by omega, by simp [HLJ.out], by go_num, HN1.out, ?_, ?_, by rw [List.length_append, flat_snoc]; exact hrow6, hU, hk6⟩
       ·
        rw [HK1B.out, HN3.out, show Ag.ge m 1 + Ag.ge m 2 + (j + 1) = Ag.ge m 1 + Ag.ge m 2 + j + 1 by omega]
        rw [HY.out, Bool.or_false]
       intro q hq
       rcases List.mem_append.1 hq with hq | hq
       ·
        exact HLR.out q hq
       simp at hq
       subst hq
       exact ⟨HY1.out, HY2.out⟩
      simp [intOf]; omega
     have dy : (y0 != (2 * ((Ag.ge m 1 : Int) + (Ag.ge m 2 : Int) + 1 + (j : Int)))) = true := by simp [hy]
     have HY : Hid (decide (y0 ≠ (2 * ((Ag.ge m 1 : Int) + (Ag.ge m 2 : Int) + 1 + (j : Int)))) = true) := decide_eq_true hy
     have c1 := n2.c1
     have f1 := n2.fz 1
     clear hy
     go_upto_region 26 with fail
     have n2' := n2.mark true
     have hkt' := hkt.set (p := ⟨w.heap.size + 1, 1, none⟩) rfl (.bool true)
     have hrow2' := row_set hrow2 (p := ⟨w.heap.size + 1, 1, none⟩) (by have := HSZC.out; simp only; omega) (.bool true)
     have d1' : (W2.setCell ⟨w.heap.size + 1, 1, none⟩ (.bool true)).cell? ⟨g, 1, none⟩ = some (.int .i64 y1) := (World.cell?_setCell_other _ _ _ _ (by have := HGR.out; first | (simp; done) | (simp; omega))).trans d1
     have d2' : (W2.setCell ⟨w.heap.size + 1, 1, none⟩ (.bool true)).cell? ⟨g, 2, none⟩ = some (.int .i64 y2) := (World.cell?_setCell_other _ _ _ _ (by have := HGR.out; first | (simp; done) | (simp; omega))).trans d2
     have HGW' : Hid (g < (W2.setCell ⟨w.heap.size + 1, 1, none⟩ (.bool true)).heap.size) := by unfold Hid; simpa using HGW.out
     clear n2 hrow2 hkt d1 d2 c1 f1
     generalize W2.setCell ⟨w.heap.size + 1, 1, none⟩ (.bool true) = W6 at *
     have hTW := n2'
     have hrW := hrow2'
     have hkW := hkt'
     have hd1 := d1'
     have hd2 := d2'
     have HGZ : Hid (g < W6.heap.size) := HGW'
     clear n2' hrow2' hkt' d1' d2'
     obtain ⟨AG, cG, hsl⟩ := row_slice hrW
     subst hsl
     have HSW : Hid (∀ V : World, (∀ b, b < W6.heap.size → b ≠ w.heap.size + 1 → some b ≠ (Value.slice AG gs.length cG).ownBlock → V.heap[b]? = W6.heap[b]?) → (fun V : World => V.cell? ⟨g, 1, none⟩ = some (.int .i64 y1) ∧ V.cell? ⟨g, 2, none⟩ = some (.int .i64 y2)) V) := by
      intro V hV
      have hbk := hV g HGZ.out (by have := HGR.out; omega) (fun e => by have := HGL.out g e.symm; omega)
      exact ⟨(World.cell?_of_block (w := W6) (a := ⟨g, 1, none⟩) hbk).trans hd1, (World.cell?_of_block (w := W6) (a := ⟨g, 2, none⟩) hbk).trans hd2⟩
     have HB0 : Hid (∀ b, b < W6.heap.size → b ≠ w.heap.size + 1 → some b ≠ (Value.slice AG gs.length cG).ownBlock → W6.drew.heap[b]? = W6.heap[b]?) := fun _ _ _ _ => rfl
     have c5 : W6.drew.cell? ⟨w.heap.size + 1, 5, none⟩ = some (.slice AG gs.length cG) := hTW.cell 3
     clear hd1 hd2
     refine wp_region_held_drew (S := (fun V : World => V.cell? ⟨g, 1, none⟩ = some (.int .i64 y1) ∧ V.cell? ⟨g, 2, none⟩ = some (.int .i64 y2))) (by kernel_rfl) (HSW.out _ HB0.out) (fun hHeld => ?_)
     refine zT 0 ⟨some 141, _, _, _, _, _⟩ ?_ rfl (by kernel_rfl) (fun _ _ _ h => h) (by rfl) hHeld ?_ ?_
     rotate_left
     ·
      rintro w ⟨s0, s1⟩
      first | (go_simp; done) | (go_simp; with_reducible rfl) | with_reducible rfl
     try simp only [Act.put, zA, zB, zC]
     refine zT 1 ⟨some 142, _, _, _, _, _⟩ ?_ rfl (by kernel_rfl) (fun _ _ _ h => h) (by rfl) hHeld ?_ ?_
     rotate_left
     ·
      rintro w ⟨s0, s1⟩
      first | (go_simp; done) | (go_simp; with_reducible rfl) | with_reducible rfl
     try simp only [Act.put, zA, zB, zC]
     refine zT 2 ⟨some 143, _, _, _, _, _⟩ ?_ rfl (by kernel_rfl) (fun _ _ _ h => h) (by rfl) hHeld ?_ ?_
     rotate_left
     ·
      rintro w ⟨s0, s1⟩
      first | (go_simp; done) | (go_simp; with_reducible rfl) | with_reducible rfl
     try simp only [Act.put, zA, zB, zC]
     refine zT 3 ⟨some 144, _, _, _, _, _⟩ ?_ rfl (by kernel_rfl) (fun _ _ _ h => h) (by rfl) hHeld ?_ ?_
     rotate_left
     ·
      rintro w ⟨s0, s1⟩
      first | (go_simp; done) | (go_simp; with_reducible rfl) | with_reducible rfl
     try simp only [Act.put, zA, zB, zC]
     refine zT 4 ⟨some 145, _, _, _, _, _⟩ ?_ rfl (by kernel_rfl) (fun _ _ _ h => h) (by rfl) hHeld ?_ ?_
     rotate_left
     ·
      rintro w ⟨s0, s1⟩
      first | (go_simp; done) | (go_simp; with_reducible rfl) | with_reducible rfl
     try simp only [Act.put, zA, zB, zC]
     refine zT 6 ⟨some 147, _, _, _, _, _⟩ ?_ rfl (by kernel_rfl) (fun _ _ _ h => h) (by rfl) hHeld ?_ ?_
     rotate_left
     ·
      rintro w ⟨s0, s1⟩
      first | (go_simp; done) | (go_simp; with_reducible rfl) | with_reducible rfl
     try simp only [Act.put, zA, zB, zC]
     refine zT 7 ⟨some 148, _, _, _, _, _⟩ ?_ rfl (by kernel_rfl) (fun _ _ _ h => h) (by rfl) hHeld ?_ ?_
     rotate_left
     ·
      rintro w ⟨s0, s1⟩
      first | (go_simp; done) | (go_simp; with_reducible rfl) | with_reducible rfl
     try simp only [Act.put, zA, zB, zC]
     refine zT 8 ⟨some 149, _, _, _, _, _⟩ ?_ rfl (by kernel_rfl) (fun _ _ _ h => h) (by rfl) hHeld ?_ ?_
     rotate_left
     ·
      rintro w ⟨s0, s1⟩
      first | (go_simp; done) | (go_simp; with_reducible rfl) | with_reducible rfl
     try simp only [Act.put, zA, zB, zC]
     refine zT 9 ⟨some 150, _, _, _, _, _⟩ ?_ rfl (by kernel_rfl) (fun _ _ _ h => h) (by rfl) hHeld ?_ ?_
     rotate_left
     ·
      rintro w ⟨s0, s1⟩
      first | (go_simp; done) | (go_simp; with_reducible rfl) | with_reducible rfl
     try simp only [Act.put, zA, zB, zC]
     refine zT 10 ⟨some 151, _, _, _, _, _⟩ ?_ rfl (by kernel_rfl) (fun _ _ _ h => h) (by rfl) hHeld ?_ ?_
     rotate_left
     ·
      rintro w ⟨s0, s1⟩
      first | (go_simp; done) | (go_simp; with_reducible rfl) | with_reducible rfl
     try simp only [Act.put, zA, zB, zC]
     refine zT 11 ⟨some 152, _, _, _, _, _⟩ ?_ rfl (by kernel_rfl) (fun _ _ _ h => h) (by rfl) hHeld ?_ ?_
     rotate_left
     ·
      rintro w ⟨s0, s1⟩
      first | (go_simp; done) | (go_simp; with_reducible rfl) | with_reducible rfl
     try simp only [Act.put, zA, zB, zC]
     refine zT 12 ⟨some 153, _, _, _, _, _⟩ ?_ rfl (by kernel_rfl) (fun _ _ _ h => h) (by rfl) hHeld ?_ ?_
     rotate_left
     ·
      rintro w ⟨s0, s1⟩
      first | (go_simp; done) | (go_simp; with_reducible rfl) | with_reducible rfl
     try simp only [Act.put, zA, zB, zC]
     refine wpAnyH_ready (rs := [5, 13]) (by kernel_rfl) (by simp) ?_
     refine (AllReadyH.cons (o := ⟨some 146, _, _, _, _, _⟩) rfl (fun K hK => ?_) (AllReadyH.cons (o := ⟨some 154, _, _, _, _, _⟩) rfl (fun K hK => ?_) AllReadyH.nil))
     ·
      go_simp
      refine hK.out _ _ ?_ (fun hHeld => ?_)
      ·
       exact HSW.out _ HB0.out
      clear hK K
      try simp only [Act.put, zA, zB, zC]
      refine wpAnyH_ready (rs := [13]) (by kernel_rfl) (by simp) ?_
      refine AllReadyH.cons (o := ⟨some 154, _, _, _, _, _⟩) rfl (fun K hK => ?_) AllReadyH.nil
      go_simp
      have hlow := lowAlloc W6 (Obj.cells #[.int .i64 y1, .int .i64 y2] 57)
      have hbk := Blk.new W6 57 #[.int .i64 y1, .int .i64 y2]
      have hT4 : TK (W6.alloc (Obj.cells #[.int .i64 y1, .int .i64 y2] 57)).drew (w.heap.size + 1) s2 true [.slice (some ⟨gm, 0, none⟩) 9 cM, .int .i64 (Ag.ge m 1 : Int), vL, .slice AG gs.length cG, vo, vb, vc, vf, .slice none 0 0] := hTW.keep hlow.drew
      have hrow4 : World.ownsRow (W6.alloc (Obj.cells #[.int .i64 y1, .int .i64 y2] 57)).drew w3.heap.size 57 2 (.slice AG gs.length cG) gs.length (flat gs) := World.ownsRow.alloc hrW (Obj.cells #[.int .i64 y1, .int .i64 y2] 57)
      have hk4 : RKeep (w.heap.size + 1) w3 (W6.alloc (Obj.cells #[.int .i64 y1, .int .i64 y2] 57)).drew := (fun (k : RKeep (w.heap.size + 1) w3 (W6.alloc (Obj.cells #[.int .i64 y1, .int .i64 y2] 57))) => ⟨k.os, k.tape, k.output, k.size, k.blk⟩) (hkW.below hlow)
      have HB4 : Hid (∀ b, b < W6.heap.size → b ≠ w.heap.size + 1 → some b ≠ (Value.slice AG gs.length cG).ownBlock → (W6.alloc (Obj.cells #[.int .i64 y1, .int .i64 y2] 57)).drew.heap[b]? = W6.heap[b]?) := fun b hb _ _ => hlow.block b hb
      have c5 : (W6.alloc (Obj.cells #[.int .i64 y1, .int .i64 y2] 57)).drew.cell? ⟨w.heap.size + 1, 5, none⟩ = some (.slice AG gs.length cG) := hT4.cell 3
      refine hK.out _ _ ?_ (fun hHeld => ?_)
      ·
       exact HSW.out _ HB4.out
      clear hK K
      try simp only [Act.put, zA, zB, zC]
      refine wpAnyH_ready (rs := [14]) (by kernel_rfl) (by simp) ?_
      refine AllReadyH.cons (o := ⟨some 155, _, _, _, _, _⟩) rfl (fun K hK => ?_) AllReadyH.nil
      rw [if_pos (by rfl)]
      refine oper_app (.tmp 146) (.tmp 154) 25 rfl (.slice AG gs.length cG) (.slice (some ⟨W6.heap.size, 0, none⟩) 1 1) rfl rfl (fun v' w' => w'.ownsRow w3.heap.size 57 2 v' (gs.length + 1) (flat gs ++ [.int .i64 y1, .int .i64 y2]) ∧ (W6.alloc (Obj.cells #[.int .i64 y1, .int .i64 y2] 57)).drew.grownBy w' (Value.slice AG gs.length cG).ownBlock) (fun ty => (by obtain ⟨v', w', r1, r2, r3, _⟩ := app_gate (W6.alloc (Obj.cells #[.int .i64 y1, .int .i64 y2] 57)).drew w3.heap.size ty (.slice AG gs.length cG) gs.length _ hrow4 W6.heap.size 1 y1 y2 hbk (by have := HLL.out; omega) (by have := hkW.size; simp; omega); exact ⟨v', w', r1, r2, r3⟩)) ?_
      intro v' w10 hR10
      obtain ⟨AL, cL, rfl⟩ := row_slice hR10.1
      have HRB := Lib.hid (row_base hrow4)
      have hT5 : TK w10 (w.heap.size + 1) s2 true _ := hT4.grown hR10.2 (fun e => by have := HRB.out _ e.symm; have := HSZC.out; omega)
      have hk5 := hk4.grown hR10.2 (fun g e => HRB.out g e)
      have HB5 : Hid (∀ b, b < W6.heap.size → b ≠ w.heap.size + 1 → some b ≠ (Value.slice AG gs.length cG).ownBlock → w10.heap[b]? = W6.heap[b]?) := fun b hb h1 h2 => (hR10.2.block b (by simp; omega) h2).trans (HB4.out b hb h1 h2)
      have hU := hT5.put 3 (.slice AL (gs.length + 1) cL)
      simp only [List.set_cons_succ, List.set_cons_zero] at hU
      have hk6 := hk5.set (p := ⟨w.heap.size + 1, 5, none⟩) rfl (.slice AL (gs.length + 1) cL)
      have hrow6 := row_set hR10.1 (p := ⟨w.heap.size + 1, 5, none⟩) (by have := HSZC.out; simp only; omega) (.slice AL (gs.length + 1) cL)
      have c5 : w10.cell? ⟨w.heap.size + 1, 5, none⟩ = some (.slice AG gs.length cG) := hT5.cell 3
      have f5 := hT5.fz 5
      have HB6 : Hid (∀ b, b < W6.heap.size → b ≠ w.heap.size + 1 → some b ≠ (Value.slice AG gs.length cG).ownBlock → (w10.setCell ⟨w.heap.size + 1, 5, none⟩ (.slice AL (gs.length + 1) cL)).heap[b]? = W6.heap[b]?) := fun b hb h1 h2 => (Below.heap_setCell w10 ⟨w.heap.size + 1, 5, none⟩ _ b (by simp only; omega)).trans (HB5.out b hb h1 h2)
      refine hK.out _ _ ?_ (fun hHeld => ?_)
      ·
       exact HSW.out _ HB5.out
      clear hK K
      try simp only [Act.put, zA, zB, zC]
      refine zT 15 ⟨some 156, _, _, _, _, _⟩ ?_ rfl (by kernel_rfl) (fun _ _ _ h => h) (by rfl) hHeld ?_ ?_
      rotate_left
      ·
       rintro w ⟨s0, s1⟩
       first | (go_simp; done) | (go_simp; with_reducible rfl) | with_reducible rfl
      try simp only [Act.put, zA, zB, zC]
      refine zT 16 ⟨some 157, _, _, _, _, _⟩ ?_ rfl (by kernel_rfl) (fun _ _ _ h => h) (by rfl) hHeld ?_ ?_
      rotate_left
      ·
       rintro w ⟨s0, s1⟩
       first | (go_simp; done) | (go_simp; with_reducible rfl) | with_reducible rfl
      try simp only [Act.put, zA, zB, zC]
      refine zT 17 ⟨some 158, _, _, _, _, _⟩ ?_ rfl (by kernel_rfl) (fun _ _ _ h => h) (by rfl) hHeld ?_ ?_
      rotate_left
      ·
       rintro w ⟨s0, s1⟩
       first | (go_simp; done) | (go_simp; with_reducible rfl) | with_reducible rfl
      try simp only [Act.put, zA, zB, zC]
      refine wpAnyH_ready (rs := [18]) (by kernel_rfl) (by simp) ?_
      refine AllReadyH.cons (o := ⟨none, _, _, _, _, _⟩) rfl (fun K hK => ?_) AllReadyH.nil
      go_simp
      refine hK.out _ _ ?_ (fun hHeld => ?_)
      ·
       exact HSW.out _ HB6.out
      clear hK K
      try simp only [Act.put, zA, zB, zC]
      refine wpAnyH_done (by kernel_rfl) ?_ _
      clear hT4 hT5 hTW hk4 hk5 hrow4 hR10 hHeld c5 f5 hkW hrW
      go_wp2
      constructor
      ·
       refine ⟨j + 1, gs ++ [(y1, y2)], .slice AL (gs.length + 1) cL, s2, true, by omega, by simp [HLJ.out], by go_num, HN1.out, ?_, ?_, by rw [List.length_append, flat_snoc]; exact hrow6, hU, hk6⟩
       ·
        rw [HK1B.out, HN3.out, show Ag.ge m 1 + Ag.ge m 2 + (j + 1) = Ag.ge m 1 + Ag.ge m 2 + j + 1 by omega]
        rw [HY.out]
        simp
       intro q hq
       rcases List.mem_append.1 hq with hq | hq
       ·
        exact HLR.out q hq
       simp at hq
       subst hq
       exact ⟨HY1.out, HY2.out⟩
      simp [intOf]; omega
     go_simp
     have hlow := lowAlloc W6 (Obj.cells #[.int .i64 y1, .int .i64 y2] 57)
     have hbk := Blk.new W6 57 #[.int .i64 y1, .int .i64 y2]
     have hT4 : TK (W6.alloc (Obj.cells #[.int .i64 y1, .int .i64 y2] 57)).drew (w.heap.size + 1) s2 true [.slice (some ⟨gm, 0, none⟩) 9 cM, .int .i64 (Ag.ge m 1 : Int), vL, .slice AG gs.length cG, vo, vb, vc, vf, .slice none 0 0] := hTW.keep hlow.drew
     have hrow4 : World.ownsRow (W6.alloc (Obj.cells #[.int .i64 y1, .int .i64 y2] 57)).drew w3.heap.size 57 2 (.slice AG gs.length cG) gs.length (flat gs) := World.ownsRow.alloc hrW (Obj.cells #[.int .i64 y1, .int .i64 y2] 57)
     have hk4 : RKeep (w.heap.size + 1) w3 (W6.alloc (Obj.cells #[.int .i64 y1, .int .i64 y2] 57)).drew := (fun (k : RKeep (w.heap.size + 1) w3 (W6.alloc (Obj.cells #[.int .i64 y1, .int .i64 y2] 57))) => ⟨k.os, k.tape, k.output, k.size, k.blk⟩) (hkW.below hlow)
     have HB4 : Hid (∀ b, b < W6.heap.size → b ≠ w.heap.size + 1 → some b ≠ (Value.slice AG gs.length cG).ownBlock → (W6.alloc (Obj.cells #[.int .i64 y1, .int .i64 y2] 57)).drew.heap[b]? = W6.heap[b]?) := fun b hb _ _ => hlow.block b hb
     have c5 : (W6.alloc (Obj.cells #[.int .i64 y1, .int .i64 y2] 57)).drew.cell? ⟨w.heap.size + 1, 5, none⟩ = some (.slice AG gs.length cG) := hT4.cell 3
     refine hK.out _ _ ?_ (fun hHeld => ?_)
     ·
      exact HSW.out _ HB4.out
     clear hK K
     try simp only [Act.put, zA, zB, zC]
     refine wpAnyH_ready (rs := [5]) (by kernel_rfl) (by simp) ?_
     refine AllReadyH.cons (o := ⟨some 146, _, _, _, _, _⟩) rfl (fun K hK => ?_) AllReadyH.nil
     go_simp
     refine hK.out _ _ ?_ (fun hHeld => ?_)
     ·
      exact HSW.out _ HB4.out
     clear hK K
     try simp only [Act.put, zA, zB, zC]
     refine wpAnyH_ready (rs := [14]) (by kernel_rfl) (by simp) ?_
     refine AllReadyH.cons (o := ⟨some 155, _, _, _, _, _⟩) rfl (fun K hK => ?_) AllReadyH.nil
     rw [if_pos (by rfl)]
     refine oper_app (.tmp 146) (.tmp 154) 25 rfl (.slice AG gs.length cG) (.slice (some ⟨W6.heap.size, 0, none⟩) 1 1) rfl rfl (fun v' w' => w'.ownsRow w3.heap.size 57 2 v' (gs.length + 1) (flat gs ++ [.int .i64 y1, .int .i64 y2]) ∧ (W6.alloc (Obj.cells #[.int .i64 y1, .int .i64 y2] 57)).drew.grownBy w' (Value.slice AG gs.length cG).ownBlock) (fun ty => (by obtain ⟨v', w', r1, r2, r3, _⟩ := app_gate (W6.alloc (Obj.cells #[.int .i64 y1, .int .i64 y2] 57)).drew w3.heap.size ty (.slice AG gs.length cG) gs.length _ hrow4 W6.heap.size 1 y1 y2 hbk (by have := HLL.out; omega) (by have := hkW.size; simp; omega); exact ⟨v', w', r1, r2, r3⟩)) ?_
     intro v' w10 hR10
     obtain ⟨AL, cL, rfl⟩ := row_slice hR10.1
     have HRB := Lib.hid (row_base hrow4)
     have hT5 : TK w10 (w.heap.size + 1) s2 true _ := hT4.grown hR10.2 (fun e => by have := HRB.out _ e.symm; have := HSZC.out; omega)
     have hk5 := hk4.grown hR10.2 (fun g e => HRB.out g e)
     have HB5 : Hid (∀ b, b < W6.heap.size → b ≠ w.heap.size + 1 → some b ≠ (Value.slice AG gs.length cG).ownBlock → w10.heap[b]? = W6.heap[b]?) := fun b hb h1 h2 => (hR10.2.block b (by simp; omega) h2).trans (HB4.out b hb h1 h2)
     have hU := hT5.put 3 (.slice AL (gs.length + 1) cL)
     simp only [List.set_cons_succ, List.set_cons_zero] at hU
     have hk6 := hk5.set (p := ⟨w.heap.size + 1, 5, none⟩) rfl (.slice AL (gs.length + 1) cL)
     have hrow6 := row_set hR10.1 (p := ⟨w.heap.size + 1, 5, none⟩) (by have := HSZC.out; simp only; omega) (.slice AL (gs.length + 1) cL)
     have c5 : w10.cell? ⟨w.heap.size + 1, 5, none⟩ = some (.slice AG gs.length cG) := hT5.cell 3
     have f5 := hT5.fz 5
     have HB6 : Hid (∀ b, b < W6.heap.size → b ≠ w.heap.size + 1 → some b ≠ (Value.slice AG gs.length cG).ownBlock → (w10.setCell ⟨w.heap.size + 1, 5, none⟩ (.slice AL (gs.length + 1) cL)).heap[b]? = W6.heap[b]?) := fun b hb h1 h2 => (Below.heap_setCell w10 ⟨w.heap.size + 1, 5, none⟩ _ b (by simp only; omega)).trans (HB5.out b hb h1 h2)
     refine hK.out _ _ ?_ (fun hHeld => ?_)
     ·
      exact HSW.out _ HB5.out
     clear hK K
     try simp only [Act.put, zA, zB, zC]
     refine zT 15 ⟨some 156, _, _, _, _, _⟩ ?_ rfl (by kernel_rfl) (fun _ _ _ h => h) (by rfl) hHeld ?_ ?_
     rotate_left
     ·
      rintro w ⟨s0, s1⟩
      first | (go_simp; done) | (go_simp; with_reducible rfl) | with_reducible rfl
     try simp only [Act.put, zA, zB, zC]
     refine zT 16 ⟨some 157, _, _, _, _, _⟩ ?_ rfl (by kernel_rfl) (fun _ _ _ h => h) (by rfl) hHeld ?_ ?_
     rotate_left
     ·
      rintro w ⟨s0, s1⟩
      first | (go_simp; done) | (go_simp; with_reducible rfl) | with_reducible rfl
     try simp only [Act.put, zA, zB, zC]
     refine zT 17 ⟨some 158, _, _, _, _, _⟩ ?_ rfl (by kernel_rfl) (fun _ _ _ h => h) (by rfl) hHeld ?_ ?_
     rotate_left
     ·
      rintro w ⟨s0, s1⟩
      first | (go_simp; done) | (go_simp; with_reducible rfl) | with_reducible rfl
     try simp only [Act.put, zA, zB, zC]
     refine wpAnyH_ready (rs := [18]) (by kernel_rfl) (by simp) ?_
     refine AllReadyH.cons (o := ⟨none, _, _, _, _, _⟩) rfl (fun K hK => ?_) AllReadyH.nil
     go_simp
     refine hK.out _ _ ?_ (fun hHeld => ?_)
     ·
      exact HSW.out _ HB6.out
     clear hK K
     try simp only [Act.put, zA, zB, zC]
     refine wpAnyH_done (by kernel_rfl) ?_ _
     clear hT4 hT5 hTW hk4 hk5 hrow4 hR10 hHeld c5 f5 hkW hrW
     go_wp2
     constructor
     ·
      refine ⟨j + 1, gs ++ [(y1, y2)], .slice AL (gs.length + 1) cL, s2, true, by omega, by simp [HLJ.out], by go_num, HN1.out, ?_, ?_, by rw [List.length_append, flat_snoc]; exact hrow6, hU, hk6⟩
      ·
       rw [HK1B.out, HN3.out, show Ag.ge m 1 + Ag.ge m 2 + (j + 1) = Ag.ge m 1 + Ag.ge m 2 + j + 1 by omega]
       rw [HY.out]
       simp
      intro q hq
      rcases List.mem_append.1 hq with hq | hq
      ·
       exact HLR.out q hq
      simp at hq
      subst hq
      exact ⟨HY1.out, HY2.out⟩
     simp [intOf]; omega
   obtain rfl : j = Ag.ge m 4 := by omega
   have dl : decide (((Ag.ge m 4 : Nat) : Int) < (Ag.ge m 4 : Int)) = false := decide_eq_false (by omega)
   have HO4 : Hid (O = if b = true then none else Ag.G4 m ls (zo, zb, zc, zf) gs s') := by
    unfold Hid
    rw [HON.out, Nat.sub_self, Ag.gatS]
    simp [Ag.latM]
   go_wp2
   go_meet
   case rel => exact ⟨gs, vG, s', b, HSX.out, HO4.out, HLL.out, HLR.out, hrow, hT, hk⟩
  obtain ⟨gs, vG, s4, b4, hs4, hO4, hgl, hgr, hrowG, hT4, hk4⟩ := hcut
  have hkv4 := hkv3.trans hk4
  have hL4 := row_kept hL3 hk4 (by omega)
  have hG4 := row_more hrowG (b2 := w.heap.size + 2) HSZ3.out.1
  replace io := io.keep hk4 (by omega)
  replace ib := ib.keep hk4 (by omega)
  replace ic := ic.keep hk4 (by omega)
  replace if_ := if_.keep hk4 (by omega)
  have HGL := Lib.hid hgl
  have HGR := Lib.hid hgr
  have HO4 := Lib.hid hO4
  have HNA := Lib.hid (tnames_any (w.heap.size + 1) s4 b4 _ _ _ _ _ _ _ _ wc hT4 (by have := HSL.out; omega))
  have HWC : Hid (w.heap.size + 2 ≤ wc.heap.size) := by have := hT4.lt; unfold Hid; omega
  have HS4 := Lib.hid hs4
  clear hkv3 hk4 hL3 hrowG hgl hgr hO4 hT4 hs4 hM3 HO3
  go_wp2_with fail
  refine HNA.out.mono ?_
  rintro e w5 ⟨vN, xs, s5, b5, rfl, hk5, hrowN, hxl, hxo, hT5, ho5⟩
  have hkv5 := hkv4.trans hk5
  have hL5 := row_kept hL4 hk5 (by omega)
  have hG5 := row_kept hG4 hk5 (by omega)
  have hN5 := row_more hrowN (b2 := w.heap.size + 2) HWC.out
  replace io := io.keep hk5 (by omega)
  replace ib := ib.keep hk5 (by omega)
  replace ic := ic.keep hk5 (by omega)
  replace if_ := if_.keep hk5 (by omega)
  have HO5 : Hid (O = if b5 = true then none else some (Ag.mk (Ag.ge m 1 : Nat) ls gs zo zb zc zf xs)) := by
   have h4 := HO4.out
   unfold Hid
   rw [h4]
   cases b4 with
   | true =>
    rw [if_pos rfl] at ho5 ⊢
    cases b5 with
    | true => rfl
    | false => rw [if_neg (by simp)] at ho5; cases ho5
   | false =>
    rw [if_neg (by simp)] at ho5 ⊢
    unfold Ag.G4
    rw [ho5]
    cases b5 with
    | true => rfl
    | false => rfl
  have hbx5 := hkv5.blkOf HBX0.out (by omega)
  have hlo5 := HLO0.out.trans (hkv5.low (by omega) (by omega))
  have HXL : Hid (xs.length ≤ 20000) := by have := HSL.out; have := HS4.out; unfold Hid; omega
  have HXO := Lib.hid hxo
  clear hk5 hkv4 hL4 hG4 hrowN ho5 HNA HO4 hxl hxo hkv5
  cases b5 with
  | true =>
   have HE : Hid (O = none) := HO5.out
   have HTO := Lib.hid (told_bad (w.heap.size + 1) _ _ w5 hT5)
   clear hT5 hL5 hG5 hN5 io ib ic if_
   go_wp2_with fail
   refine HTO.out.mono ?_
   rintro e w9 ⟨rfl, hb9⟩
   have hbx9 := hbx5.below hb9 hbx5.lt
   have hlo9x := hlo5.trans (hb9.mono hlo5.size)
   clear HTO hbx5 hlo5 hb9
   unfold zeroC
   have hC9 : Blk ((((((((w9.setCell ⟨w.heap.size, 0, none⟩ (.int .i64 0)).setCell ⟨w.heap.size, 1, none⟩ (.slice none 0 0)).setCell ⟨w.heap.size, 2, none⟩ (.slice none 0 0)).setCell ⟨w.heap.size, 3, none⟩ (.slice none 0 0)).setCell ⟨w.heap.size, 4, none⟩ (.slice none 0 0)).setCell ⟨w.heap.size, 5, none⟩ (.slice none 0 0)).setCell ⟨w.heap.size, 6, none⟩ (.slice none 0 0)).setCell ⟨w.heap.size, 7, none⟩ (.slice none 0 0)) w.heap.size 29 #[.int .i64 0, .slice none 0 0, .slice none 0 0, .slice none 0 0, .slice none 0 0, .slice none 0 0, .slice none 0 0, .slice none 0 0] := ((((((((hbx9.put 0 (.int .i64 0)).put 1 (.slice none 0 0)).put 2 (.slice none 0 0)).put 3 (.slice none 0 0)).put 4 (.slice none 0 0)).put 5 (.slice none 0 0)).put 6 (.slice none 0 0)).put 7 (.slice none 0 0))
   have hlo9 : Below w.heap.size w ((((((((w9.setCell ⟨w.heap.size, 0, none⟩ (.int .i64 0)).setCell ⟨w.heap.size, 1, none⟩ (.slice none 0 0)).setCell ⟨w.heap.size, 2, none⟩ (.slice none 0 0)).setCell ⟨w.heap.size, 3, none⟩ (.slice none 0 0)).setCell ⟨w.heap.size, 4, none⟩ (.slice none 0 0)).setCell ⟨w.heap.size, 5, none⟩ (.slice none 0 0)).setCell ⟨w.heap.size, 6, none⟩ (.slice none 0 0)).setCell ⟨w.heap.size, 7, none⟩ (.slice none 0 0)) := ((((((((hlo9x.setCell (p := ⟨w.heap.size, 0, none⟩) (Nat.le_refl _) (.int .i64 0)).setCell (p := ⟨w.heap.size, 1, none⟩) (Nat.le_refl _) (.slice none 0 0)).setCell (p := ⟨w.heap.size, 2, none⟩) (Nat.le_refl _) (.slice none 0 0)).setCell (p := ⟨w.heap.size, 3, none⟩) (Nat.le_refl _) (.slice none 0 0)).setCell (p := ⟨w.heap.size, 4, none⟩) (Nat.le_refl _) (.slice none 0 0)).setCell (p := ⟨w.heap.size, 5, none⟩) (Nat.le_refl _) (.slice none 0 0)).setCell (p := ⟨w.heap.size, 6, none⟩) (Nat.le_refl _) (.slice none 0 0)).setCell (p := ⟨w.heap.size, 7, none⟩) (Nat.le_refl _) (.slice none 0 0))
   have HC9 := Lib.hid hC9
   have HLO9 := Lib.hid hlo9
   clear hC9 hlo9
   have b0 := hbx9.cell 0
   have fb0 := hbx9.frozen 0
   have b1 := hbx9.cell 1
   have fb1 := hbx9.frozen 1
   have b2 := hbx9.cell 2
   have fb2 := hbx9.frozen 2
   have b3 := hbx9.cell 3
   have fb3 := hbx9.frozen 3
   have b4 := hbx9.cell 4
   have fb4 := hbx9.frozen 4
   have b5 := hbx9.cell 5
   have fb5 := hbx9.frozen 5
   have b6 := hbx9.cell 6
   have fb6 := hbx9.frozen 6
   have b7 := hbx9.cell 7
   have fb7 := hbx9.frozen 7
   simp only [zD, zE, zF] at b0 b1 b2 b3 b4 b5 b6 b7
   clear hbx9 hlo9x
   go_wp2
   clear b0 fb0 b1 fb1 b2 fb2 b3 fb3 b4 fb4 b5 fb5 b6 fb6 b7 fb7
   generalize ((((((((w9.setCell ⟨w.heap.size, 0, none⟩ (.int .i64 0)).setCell ⟨w.heap.size, 1, none⟩ (.slice none 0 0)).setCell ⟨w.heap.size, 2, none⟩ (.slice none 0 0)).setCell ⟨w.heap.size, 3, none⟩ (.slice none 0 0)).setCell ⟨w.heap.size, 4, none⟩ (.slice none 0 0)).setCell ⟨w.heap.size, 5, none⟩ (.slice none 0 0)).setCell ⟨w.heap.size, 6, none⟩ (.slice none 0 0)).setCell ⟨w.heap.size, 7, none⟩ (.slice none 0 0)) = W9 at *
   have hC9 := HC9.out
   have hlo9 := HLO9.out
   have r0 := hC9.cell 0
   have r1 := hC9.cell 1
   have r2 := hC9.cell 2
   have r3 := hC9.cell 3
   have r4 := hC9.cell 4
   have r5 := hC9.cell 5
   have r6 := hC9.cell 6
   have r7 := hC9.cell 7
   simp only [zD, zE, zF] at r0 r1 r2 r3 r4 r5 r6 r7
   refine bodyPost_ret (v := .tuple #[.agg #[.int .i64 0, .slice none 0 0, .slice none 0 0, .slice none 0 0, .slice none 0 0, .slice none 0 0, .slice none 0 0, .slice none 0 0], .int .i64 21]) (by simp [results, Tryz.results20, go_sem, r0, r1, r2, r3, r4, r5, r6, r7]) rfl ?_
   unfold RParseP
   rw [HPO.out, HE.out]
   unfold toldE
   exact ⟨rfl, hlo9⟩
  | false =>
   obtain ⟨AL, cL, e1⟩ := row_slice hL5
   obtain ⟨AG, cG, e2⟩ := row_slice hG5
   obtain ⟨AO, cO, e3⟩ := row_slice io.row
   obtain ⟨AB, cB, e4⟩ := row_slice ib.row
   obtain ⟨AC, cC, e5⟩ := row_slice ic.row
   obtain ⟨AF, cF, e6⟩ := row_slice if_.row
   obtain ⟨AN, cN, e7⟩ := row_slice hN5
   subst e1 e2 e3 e4 e5 e6 e7
   obtain ⟨c, hcd⟩ : ∃ c : Cir, c = ({ n := (Ag.ge m 1 : Int), aL := AL, cL := cL, ls := ls, aG := AG, cG := cG, gs := gs, aO := AO, cO := cO, os := zo, aB := AB, cB := cB, bs := zb, aC := AC, cC := cC, cs := zc, aF := AF, cF := cF, fs := zf, aN := AN, cN := cN, ns := xs } : Cir) := ⟨_, rfl⟩
   have hR : CRows w5 (w.heap.size + 2) c := by
    rw [hcd]
    exact ⟨hL5, hG5, io.row, ib.row, ic.row, if_.row, hN5⟩
   have hW : CirW c := by
    rw [hcd]
    have hml : (2000 : Nat) ≤ maxLen := by decide
    have h1 := HLLS.out
    have h2 := HLRS.out
    have h3 := HGL.out
    have h4 := HGR.out
    have h5 := HXL.out
    have h6 := HXO.out
    have h7 := (hM1n).out
    refine ⟨⟨by simp only; omega, by simp only; omega⟩, fun q hq => ?_, fun q hq => ?_, fun z hz => ?_, fun z hz => ?_, fun z hz => ?_, fun z hz => ?_, fun x hx => ?_, by simp only; omega, by simp only; omega, Nat.le_trans io.len hml, Nat.le_trans ib.len hml, Nat.le_trans ic.len hml, Nat.le_trans if_.len hml, by simp only; omega⟩
    ·
     have := h2 q hq
     try simp only [I64]
     omega
    ·
     have := h4 q hq
     try simp only [I64]
     omega
    ·
     have := io.low z hz
     try simp only [I64]
     omega
    ·
     have := ib.low z hz
     try simp only [I64]
     omega
    ·
     have := ic.low z hz
     try simp only [I64]
     omega
    ·
     have := if_.low z hz
     try simp only [I64]
     omega
    obtain ⟨p1, p2, p3⟩ := h6 x hx
    refine ⟨p1, ?_, Nat.le_trans p3 (by decide)⟩
    try simp only [I64]
    omega
   have HOC : Hid (O = some (Ag.strip c)) := by
    unfold Hid
    rw [hcd]
    exact HO5.out
   have hT5c : TK w5 (w.heap.size + 1) s5 false [.slice (some ⟨gm, 0, none⟩) 9 cM, .int .i64 c.n, .slice c.aL c.ls.length c.cL, .slice c.aG c.gs.length c.cG, .slice c.aO c.os.length c.cO, .slice c.aB c.bs.length c.cB, .slice c.aC c.cs.length c.cC, .slice c.aF c.fs.length c.cF, .slice c.aN c.ns.length c.cN] := by
    rw [hcd]
    exact hT5
   have HTO := Lib.hid (told_ok (w.heap.size + 1) s5 _ c w5 hT5c hR.cir hW)
   clear hT5 hT5c hL5 hG5 hN5 io ib ic if_ hcd hW HO5
   go_wp2_with fail
   refine HTO.out.mono ?_
   intro e w9 hP
   unfold ToldP at hP
   obtain ⟨he, hb9⟩ := hP
   have hbx9 := hbx5.below hb9 hbx5.lt
   have hlo9x := hlo5.trans (hb9.mono hlo5.size)
   have hR9 := hR.low hb9
   clear HTO hbx5 hlo5 hb9 hR
   cases hr : Cm.rightC c with
   | false =>
    rw [if_neg (by rw [hr]; simp)] at he
    subst he
    have HPE : Hid (Ag.parseS s = .error 22) := by
     unfold Hid
     rw [HPO.out, HOC.out]
     unfold toldE
     simp only
     rw [Ag.right_strip, hr]
     rfl
    clear hR9 hr
    unfold zeroC
    have hC9 : Blk ((((((((w9.setCell ⟨w.heap.size, 0, none⟩ (.int .i64 0)).setCell ⟨w.heap.size, 1, none⟩ (.slice none 0 0)).setCell ⟨w.heap.size, 2, none⟩ (.slice none 0 0)).setCell ⟨w.heap.size, 3, none⟩ (.slice none 0 0)).setCell ⟨w.heap.size, 4, none⟩ (.slice none 0 0)).setCell ⟨w.heap.size, 5, none⟩ (.slice none 0 0)).setCell ⟨w.heap.size, 6, none⟩ (.slice none 0 0)).setCell ⟨w.heap.size, 7, none⟩ (.slice none 0 0)) w.heap.size 29 #[.int .i64 0, .slice none 0 0, .slice none 0 0, .slice none 0 0, .slice none 0 0, .slice none 0 0, .slice none 0 0, .slice none 0 0] := ((((((((hbx9.put 0 (.int .i64 0)).put 1 (.slice none 0 0)).put 2 (.slice none 0 0)).put 3 (.slice none 0 0)).put 4 (.slice none 0 0)).put 5 (.slice none 0 0)).put 6 (.slice none 0 0)).put 7 (.slice none 0 0))
    have hlo9 : Below w.heap.size w ((((((((w9.setCell ⟨w.heap.size, 0, none⟩ (.int .i64 0)).setCell ⟨w.heap.size, 1, none⟩ (.slice none 0 0)).setCell ⟨w.heap.size, 2, none⟩ (.slice none 0 0)).setCell ⟨w.heap.size, 3, none⟩ (.slice none 0 0)).setCell ⟨w.heap.size, 4, none⟩ (.slice none 0 0)).setCell ⟨w.heap.size, 5, none⟩ (.slice none 0 0)).setCell ⟨w.heap.size, 6, none⟩ (.slice none 0 0)).setCell ⟨w.heap.size, 7, none⟩ (.slice none 0 0)) := ((((((((hlo9x.setCell (p := ⟨w.heap.size, 0, none⟩) (Nat.le_refl _) (.int .i64 0)).setCell (p := ⟨w.heap.size, 1, none⟩) (Nat.le_refl _) (.slice none 0 0)).setCell (p := ⟨w.heap.size, 2, none⟩) (Nat.le_refl _) (.slice none 0 0)).setCell (p := ⟨w.heap.size, 3, none⟩) (Nat.le_refl _) (.slice none 0 0)).setCell (p := ⟨w.heap.size, 4, none⟩) (Nat.le_refl _) (.slice none 0 0)).setCell (p := ⟨w.heap.size, 5, none⟩) (Nat.le_refl _) (.slice none 0 0)).setCell (p := ⟨w.heap.size, 6, none⟩) (Nat.le_refl _) (.slice none 0 0)).setCell (p := ⟨w.heap.size, 7, none⟩) (Nat.le_refl _) (.slice none 0 0))
    have HC9 := Lib.hid hC9
    have HLO9 := Lib.hid hlo9
    clear hC9 hlo9
    have b0 := hbx9.cell 0
    have fb0 := hbx9.frozen 0
    have b1 := hbx9.cell 1
    have fb1 := hbx9.frozen 1
    have b2 := hbx9.cell 2
    have fb2 := hbx9.frozen 2
    have b3 := hbx9.cell 3
    have fb3 := hbx9.frozen 3
    have b4 := hbx9.cell 4
    have fb4 := hbx9.frozen 4
    have b5 := hbx9.cell 5
    have fb5 := hbx9.frozen 5
    have b6 := hbx9.cell 6
    have fb6 := hbx9.frozen 6
    have b7 := hbx9.cell 7
    have fb7 := hbx9.frozen 7
    simp only [zD, zE, zF] at b0 b1 b2 b3 b4 b5 b6 b7
    clear hbx9 hlo9x
    go_wp2
    clear b0 fb0 b1 fb1 b2 fb2 b3 fb3 b4 fb4 b5 fb5 b6 fb6 b7 fb7
    generalize ((((((((w9.setCell ⟨w.heap.size, 0, none⟩ (.int .i64 0)).setCell ⟨w.heap.size, 1, none⟩ (.slice none 0 0)).setCell ⟨w.heap.size, 2, none⟩ (.slice none 0 0)).setCell ⟨w.heap.size, 3, none⟩ (.slice none 0 0)).setCell ⟨w.heap.size, 4, none⟩ (.slice none 0 0)).setCell ⟨w.heap.size, 5, none⟩ (.slice none 0 0)).setCell ⟨w.heap.size, 6, none⟩ (.slice none 0 0)).setCell ⟨w.heap.size, 7, none⟩ (.slice none 0 0)) = W9 at *
    have hC9 := HC9.out
    have hlo9 := HLO9.out
    have r0 := hC9.cell 0
    have r1 := hC9.cell 1
    have r2 := hC9.cell 2
    have r3 := hC9.cell 3
    have r4 := hC9.cell 4
    have r5 := hC9.cell 5
    have r6 := hC9.cell 6
    have r7 := hC9.cell 7
    simp only [zD, zE, zF] at r0 r1 r2 r3 r4 r5 r6 r7
    refine bodyPost_ret (v := .tuple #[.agg #[.int .i64 0, .slice none 0 0, .slice none 0 0, .slice none 0 0, .slice none 0 0, .slice none 0 0, .slice none 0 0, .slice none 0 0], .int .i64 22]) (by simp [results, Tryz.results20, go_sem, r0, r1, r2, r3, r4, r5, r6, r7]) rfl ?_
    unfold RParseP
    rw [HPE.out]
    exact ⟨rfl, hlo9⟩
   | true =>
    rw [if_pos hr] at he
    subst he
    have HPE : Hid (Ag.parseS s = .ok (Ag.strip c)) := by
     unfold Hid
     rw [HPO.out, HOC.out]
     unfold toldE
     simp only
     rw [Ag.right_strip, hr]
     rfl
    clear hr
    have hC9 : Blk ((((((((w9.setCell ⟨w.heap.size, 0, none⟩ (.int .i64 c.n)).setCell ⟨w.heap.size, 1, none⟩ (.slice c.aL c.ls.length c.cL)).setCell ⟨w.heap.size, 2, none⟩ (.slice c.aG c.gs.length c.cG)).setCell ⟨w.heap.size, 3, none⟩ (.slice c.aO c.os.length c.cO)).setCell ⟨w.heap.size, 4, none⟩ (.slice c.aB c.bs.length c.cB)).setCell ⟨w.heap.size, 5, none⟩ (.slice c.aC c.cs.length c.cC)).setCell ⟨w.heap.size, 6, none⟩ (.slice c.aF c.fs.length c.cF)).setCell ⟨w.heap.size, 7, none⟩ (.slice c.aN c.ns.length c.cN)) w.heap.size 29 #[.int .i64 c.n, .slice c.aL c.ls.length c.cL, .slice c.aG c.gs.length c.cG, .slice c.aO c.os.length c.cO, .slice c.aB c.bs.length c.cB, .slice c.aC c.cs.length c.cC, .slice c.aF c.fs.length c.cF, .slice c.aN c.ns.length c.cN] := ((((((((hbx9.put 0 (.int .i64 c.n)).put 1 (.slice c.aL c.ls.length c.cL)).put 2 (.slice c.aG c.gs.length c.cG)).put 3 (.slice c.aO c.os.length c.cO)).put 4 (.slice c.aB c.bs.length c.cB)).put 5 (.slice c.aC c.cs.length c.cC)).put 6 (.slice c.aF c.fs.length c.cF)).put 7 (.slice c.aN c.ns.length c.cN))
    have hlo9 : Below w.heap.size w ((((((((w9.setCell ⟨w.heap.size, 0, none⟩ (.int .i64 c.n)).setCell ⟨w.heap.size, 1, none⟩ (.slice c.aL c.ls.length c.cL)).setCell ⟨w.heap.size, 2, none⟩ (.slice c.aG c.gs.length c.cG)).setCell ⟨w.heap.size, 3, none⟩ (.slice c.aO c.os.length c.cO)).setCell ⟨w.heap.size, 4, none⟩ (.slice c.aB c.bs.length c.cB)).setCell ⟨w.heap.size, 5, none⟩ (.slice c.aC c.cs.length c.cC)).setCell ⟨w.heap.size, 6, none⟩ (.slice c.aF c.fs.length c.cF)).setCell ⟨w.heap.size, 7, none⟩ (.slice c.aN c.ns.length c.cN)) := ((((((((hlo9x.setCell (p := ⟨w.heap.size, 0, none⟩) (Nat.le_refl _) (.int .i64 c.n)).setCell (p := ⟨w.heap.size, 1, none⟩) (Nat.le_refl _) (.slice c.aL c.ls.length c.cL)).setCell (p := ⟨w.heap.size, 2, none⟩) (Nat.le_refl _) (.slice c.aG c.gs.length c.cG)).setCell (p := ⟨w.heap.size, 3, none⟩) (Nat.le_refl _) (.slice c.aO c.os.length c.cO)).setCell (p := ⟨w.heap.size, 4, none⟩) (Nat.le_refl _) (.slice c.aB c.bs.length c.cB)).setCell (p := ⟨w.heap.size, 5, none⟩) (Nat.le_refl _) (.slice c.aC c.cs.length c.cC)).setCell (p := ⟨w.heap.size, 6, none⟩) (Nat.le_refl _) (.slice c.aF c.fs.length c.cF)).setCell (p := ⟨w.heap.size, 7, none⟩) (Nat.le_refl _) (.slice c.aN c.ns.length c.cN))
    have HC9 := Lib.hid hC9
    have HLO9 := Lib.hid hlo9
    clear hC9 hlo9
    have HR9 : Hid (CRows ((((((((w9.setCell ⟨w.heap.size, 0, none⟩ (.int .i64 c.n)).setCell ⟨w.heap.size, 1, none⟩ (.slice c.aL c.ls.length c.cL)).setCell ⟨w.heap.size, 2, none⟩ (.slice c.aG c.gs.length c.cG)).setCell ⟨w.heap.size, 3, none⟩ (.slice c.aO c.os.length c.cO)).setCell ⟨w.heap.size, 4, none⟩ (.slice c.aB c.bs.length c.cB)).setCell ⟨w.heap.size, 5, none⟩ (.slice c.aC c.cs.length c.cC)).setCell ⟨w.heap.size, 6, none⟩ (.slice c.aF c.fs.length c.cF)).setCell ⟨w.heap.size, 7, none⟩ (.slice c.aN c.ns.length c.cN)) (w.heap.size + 2) c) := ((((((((hR9.set (p := ⟨w.heap.size, 0, none⟩) (by simp only; omega) (.int .i64 c.n)).set (p := ⟨w.heap.size, 1, none⟩) (by simp only; omega) (.slice c.aL c.ls.length c.cL)).set (p := ⟨w.heap.size, 2, none⟩) (by simp only; omega) (.slice c.aG c.gs.length c.cG)).set (p := ⟨w.heap.size, 3, none⟩) (by simp only; omega) (.slice c.aO c.os.length c.cO)).set (p := ⟨w.heap.size, 4, none⟩) (by simp only; omega) (.slice c.aB c.bs.length c.cB)).set (p := ⟨w.heap.size, 5, none⟩) (by simp only; omega) (.slice c.aC c.cs.length c.cC)).set (p := ⟨w.heap.size, 6, none⟩) (by simp only; omega) (.slice c.aF c.fs.length c.cF)).set (p := ⟨w.heap.size, 7, none⟩) (by simp only; omega) (.slice c.aN c.ns.length c.cN))
    clear hR9
    have b0 := hbx9.cell 0
    have fb0 := hbx9.frozen 0
    have b1 := hbx9.cell 1
    have fb1 := hbx9.frozen 1
    have b2 := hbx9.cell 2
    have fb2 := hbx9.frozen 2
    have b3 := hbx9.cell 3
    have fb3 := hbx9.frozen 3
    have b4 := hbx9.cell 4
    have fb4 := hbx9.frozen 4
    have b5 := hbx9.cell 5
    have fb5 := hbx9.frozen 5
    have b6 := hbx9.cell 6
    have fb6 := hbx9.frozen 6
    have b7 := hbx9.cell 7
    have fb7 := hbx9.frozen 7
    simp only [zD, zE, zF] at b0 b1 b2 b3 b4 b5 b6 b7
    clear hbx9 hlo9x
    go_wp2
    clear b0 fb0 b1 fb1 b2 fb2 b3 fb3 b4 fb4 b5 fb5 b6 fb6 b7 fb7
    generalize ((((((((w9.setCell ⟨w.heap.size, 0, none⟩ (.int .i64 c.n)).setCell ⟨w.heap.size, 1, none⟩ (.slice c.aL c.ls.length c.cL)).setCell ⟨w.heap.size, 2, none⟩ (.slice c.aG c.gs.length c.cG)).setCell ⟨w.heap.size, 3, none⟩ (.slice c.aO c.os.length c.cO)).setCell ⟨w.heap.size, 4, none⟩ (.slice c.aB c.bs.length c.cB)).setCell ⟨w.heap.size, 5, none⟩ (.slice c.aC c.cs.length c.cC)).setCell ⟨w.heap.size, 6, none⟩ (.slice c.aF c.fs.length c.cF)).setCell ⟨w.heap.size, 7, none⟩ (.slice c.aN c.ns.length c.cN)) = W9 at *
    have hC9 := HC9.out
    have hlo9 := HLO9.out
    have r0 := hC9.cell 0
    have r1 := hC9.cell 1
    have r2 := hC9.cell 2
    have r3 := hC9.cell 3
    have r4 := hC9.cell 4
    have r5 := hC9.cell 5
    have r6 := hC9.cell 6
    have r7 := hC9.cell 7
    simp only [zD, zE, zF] at r0 r1 r2 r3 r4 r5 r6 r7
    refine bodyPost_ret (v := .tuple #[.agg #[.int .i64 c.n, .slice c.aL c.ls.length c.cL, .slice c.aG c.gs.length c.cG, .slice c.aO c.os.length c.cO, .slice c.aB c.bs.length c.cB, .slice c.aC c.cs.length c.cC, .slice c.aF c.fs.length c.cF, .slice c.aN c.ns.length c.cN], .int .i64 0]) (by simp [results, Tryz.results20, go_sem, r0, r1, r2, r3, r4, r5, r6, r7]) rfl ?_
    unfold RParseP
    rw [HPE.out]
    exact ⟨c, rfl, rfl, HR9.out.cir, hlo9⟩
end Go.Proofs.YtpejilhdhkmcjaaGreatDoor
