/- listed, width, counts, fits. -/
import Derived.Test.YtpejilhdhkmcjaaGreatDoorJaAl
import Derived.Test.YtpejilhdhkmcjaaGreatDoorJaag
namespace Go.Proofs.YtpejilhdhkmcjaaGreatDoor
open Go.RowKit

theorem boxed (w : World) (c : Cir) : Blk (w.alloc (Obj.cells #[.int .i64 c.n, .slice c.aL c.ls.length c.cL, .slice c.aG c.gs.length c.cG, .slice c.aO c.os.length c.cO, .slice c.aB c.bs.length c.cB, .slice c.aC c.cs.length c.cC, .slice c.aF c.fs.length c.cF, .slice c.aN c.ns.length c.cN] 29)) w.heap.size 29 #[.int .i64 c.n, .slice c.aL c.ls.length c.cL, .slice c.aG c.gs.length c.cG, .slice c.aO c.os.length c.cO, .slice c.aB c.bs.length c.cB, .slice c.aC c.cs.length c.cC, .slice c.aF c.fs.length c.cF, .slice c.aN c.ns.length c.cN] := Blk.new w _ _
theorem lowAlloc (w : World) (o : Obj) : Below w.heap.size w (w.alloc o) := (Below.refl _ _).alloc (Nat.le_refl _) _

/-- The slice of a kind. -/
def lstV (c : Cir) (k : Int) : Value := if k = 111 then .slice c.aO c.os.length c.cO else if k = 98 then .slice c.aB c.bs.length c.cB else if k = 99 then .slice c.aC c.cs.length c.cC else if k = 102 then .slice c.aF c.fs.length c.cF else .slice none 0 0
set_option maxHeartbeats 1000000 in
theorem listed_any (c : Cir) (k : Int) (w : World) :
  Calls Tryz.prog 78 #[.agg #[.int .i64 c.n, .slice c.aL c.ls.length c.cL, .slice c.aG c.gs.length c.cG, .slice c.aO c.os.length c.cO, .slice c.aB c.bs.length c.cB, .slice c.aC c.cs.length c.cC, .slice c.aF c.fs.length c.cF, .slice c.aN c.ns.length c.cN], .int .i32 k] w fun e w' => e = .returned (lstV c k) ∧ Below w.heap.size w w' := by
 unfold lstV
 by_cases h1 : k = 111
 ·
  subst h1
  rw [if_pos rfl]
  go_enter Tryz.func78, Tryz.ntmps78
  go_wp2
  go_ret
  exact ⟨rfl, lowAlloc w _⟩
 by_cases h2 : k = 98
 ·
  subst h2
  rw [if_neg (by omega), if_pos rfl]
  go_enter Tryz.func78, Tryz.ntmps78
  go_wp2
  go_ret
  exact ⟨rfl, lowAlloc w _⟩
 by_cases h3 : k = 99
 ·
  subst h3
  rw [if_neg (by omega), if_neg (by omega), if_pos rfl]
  go_enter Tryz.func78, Tryz.ntmps78
  go_wp2
  go_ret
  exact ⟨rfl, lowAlloc w _⟩
 by_cases h4 : k = 102
 ·
  subst h4
  rw [if_neg (by omega), if_neg (by omega), if_neg (by omega), if_pos rfl]
  go_enter Tryz.func78, Tryz.ntmps78
  go_wp2
  go_ret
  exact ⟨rfl, lowAlloc w _⟩
 rw [if_neg h1, if_neg h2, if_neg h3, if_neg h4]
 have d1 : (k == 111) = false := by simpa using h1
 have d2 : (k == 98) = false := by simpa using h2
 have d3 : (k == 99) = false := by simpa using h3
 have d4 : (k == 102) = false := by simpa using h4
 go_enter Tryz.func78, Tryz.ntmps78
 go_wp2
 go_ret
 exact ⟨rfl, lowAlloc w _⟩

set_option maxHeartbeats 1000000 in
theorem width_any (c : Cir) (w : World) :
  Calls Tryz.prog 74 #[.agg #[.int .i64 c.n, .slice c.aL c.ls.length c.cL, .slice c.aG c.gs.length c.cG, .slice c.aO c.os.length c.cO, .slice c.aB c.bs.length c.cB, .slice c.aC c.cs.length c.cC, .slice c.aF c.fs.length c.cF, .slice c.aN c.ns.length c.cN]] w fun e w' => e = .returned (.int .i64 (wrap64 (c.n + c.ls.length))) ∧ Below w.heap.size w w' := by
 go_enter Tryz.func74, Tryz.ntmps74
 go_wp2
 go_ret
 exact ⟨rfl, lowAlloc w _⟩

theorem lstV_ex (c : Cir) (k : Int) : ∃ A q, lstV c k = .slice A (Cm.lstS c k).length q := by
 unfold lstV Cm.lstS
 split
 ·
  exact ⟨_, _, rfl⟩
 split
 ·
  exact ⟨_, _, rfl⟩
 split
 ·
  exact ⟨_, _, rfl⟩
 split
 ·
  exact ⟨_, _, rfl⟩
 exact ⟨none, 0, rfl⟩
/-- The numbers while they are counted. -/
def cntL (c : Cir) (i : Nat) : Int := (Cm.lstS c (Cm.kindAt i)).length
def numL (c : Cir) (i : Nat) : Int := Cm.numS c (Cm.kindAt i)
theorem ents_succ (L : Nat → Int) (k : Nat) : ents L (k + 1) = ents L k ++ [MapEntry.mk (.int .i32 (Cm.kindAt k)) (.int .i64 (L k)) k] := by simp [ents, List.range_succ]
theorem find_new (L : Nat → Int) (k : Nat) (h : k < 6) : Instr.findNow (.int .i32) (.int .i32 (Cm.kindAt k)) (ents L k) 0 = some none := by
 match k, h with
 | 0, _ => rfl
 | 1, _ => rfl
 | 2, _ => rfl
 | 3, _ => rfl
 | 4, _ => rfl
 | 5, _ => rfl
theorem kinds_dec (k : Nat) (h : k < 6) : ((Utf8.decode Cm.kinds k).1 : Int) = Cm.kindAt k ∧ (Utf8.decode Cm.kinds k).2 = 1 := by
 match k, h with
 | 0, _ => decide
 | 1, _ => decide
 | 2, _ => decide
 | 3, _ => decide
 | 4, _ => decide
 | 5, _ => decide
theorem next_kind (w : World) (ib : Nat) (k : Nat) (hk : Hp w ib (.stringIter Cm.kinds k)) (h : k < 6) :
  ∃ wn, (∀ ty, (Instr.next (.pointer (some ⟨ib, 0, none⟩)) true ty).run Tryz.prog w = .ok (.tuple #[.bool true, .int .i64 k, .int .i32 (Cm.kindAt k)]) wn) ∧ Hp wn ib (.stringIter Cm.kinds (k + 1)) ∧ w.grownBy wn (some ib) := by
 obtain ⟨wn, h1, h2, h3⟩ := next_any w ib Cm.kinds k hk h
 obtain ⟨e1, e2⟩ := kinds_dec k h
 rw [e1] at h1
 rw [e2] at h2
 exact ⟨wn, h1, h2, h3⟩
theorem next_kend (w : World) (ib : Nat) (hk : Hp w ib (.stringIter Cm.kinds 6)) :
  ∀ ty, (Instr.next (.pointer (some ⟨ib, 0, none⟩)) true ty).run Tryz.prog w = .ok (.tuple #[.bool false]) w := next_end w ib Cm.kinds 6 hk (by decide)
theorem make_map (w : World) (n : Int) : (Instr.makeMap 108 (some (.int .i64 n))).run Tryz.prog w = .ok (.map (some w.heap.size)) (w.alloc (.map #[] 0)) := by
 simp only [Instr.makeMap, Sem.run_bind, run_underlying Tryz.underlying108, Result.andThen]
 rfl
theorem modify_ents (L : Nat → Int) (i : Nat) (v : Int) (h : i < 6) : (ents L 6).modify i (fun e => { e with key := .int .i32 (Cm.kindAt i), val := .int .i64 v }) = ents (fun j => if j = i then v else L j) 6 := by
 match i, h with
 | 0, _ => rfl
 | 1, _ => rfl
 | 2, _ => rfl
 | 3, _ => rfl
 | 4, _ => rfl
 | 5, _ => rfl
theorem ents_cong (L M : Nat → Int) (k : Nat) (h : ∀ i, i < k → L i = M i) : ents L k = ents M k := by
 unfold ents
 apply List.map_congr_left
 intro i hi
 rw [h i (by simpa using hi)]
theorem find_old (L : Nat → Int) (i : Nat) (h : i < 6) : Instr.findNow (.int .i32) (.int .i32 (Cm.kindAt i)) (ents L 6) 0 = some (some (i, .int .i64 (L i))) := by
 match i, h with
 | 0, _ => rfl
 | 1, _ => rfl
 | 2, _ => rfl
 | 3, _ => rfl
 | 4, _ => rfl
 | 5, _ => rfl
theorem ents_get (L : Nat → Int) (i : Nat) (h : i < 6) : (ents L 6)[i]? = some ⟨.int .i32 (Cm.kindAt i), .int .i64 (L i), i⟩ := by simp [ents, h]

/-- A map of the numbers of signals by kinds. -/
def Counts (c : Cir) (w : World) (e : Ending) (w' : World) : Prop := ∃ b, e = .returned (.map (some b)) ∧ w.heap.size ≤ b ∧ Hp w' b (cmap (numL c) 6) ∧ Below w.heap.size w w'
/-- What the counting loop keeps. -/
structure CL (w wr : World) (c : Cir) (k : Nat) : Prop where
 low : Below w.heap.size w wr
 box : Blk wr w.heap.size 29 #[.int .i64 c.n, .slice c.aL c.ls.length c.cL, .slice c.aG c.gs.length c.cG, .slice c.aO c.os.length c.cO, .slice c.aB c.bs.length c.cB, .slice c.aC c.cs.length c.cC, .slice c.aF c.fs.length c.cF, .slice c.aN c.ns.length c.cN]
 map : Hp wr (w.heap.size + 1) (cmap (cntL c) k)
 it : Hp wr (w.heap.size + 2) (.stringIter Cm.kinds k)

set_option maxRecDepth 100000 in
set_option maxHeartbeats 4000000 in
theorem counts_any (c : Cir) (w : World) : Calls Tryz.prog 72 #[.agg #[.int .i64 c.n, .slice c.aL c.ls.length c.cL, .slice c.aG c.gs.length c.cG, .slice c.aO c.os.length c.cO, .slice c.aB c.bs.length c.cB, .slice c.aC c.cs.length c.cC, .slice c.aF c.fs.length c.cF, .slice c.aN c.ns.length c.cN]] w (Counts c w) := by
 have hmk := make_map
 have hst : CL w (((w.alloc (Obj.cells #[.int .i64 c.n, .slice c.aL c.ls.length c.cL, .slice c.aG c.gs.length c.cG, .slice c.aO c.os.length c.cO, .slice c.aB c.bs.length c.cB, .slice c.aC c.cs.length c.cC, .slice c.aF c.fs.length c.cF, .slice c.aN c.ns.length c.cN] 29)).alloc (.map #[] 0)).iter Cm.kinds 0) c 0 := by
  refine ⟨((lowAlloc w _).alloc (by simp) _).alloc (by simp; omega) _, ((boxed w c).alloc _).alloc _, ?_, ?_⟩
  ·
   have := (Hp.new (w.alloc (Obj.cells #[.int .i64 c.n, .slice c.aL c.ls.length c.cL, .slice c.aG c.gs.length c.cG, .slice c.aO c.os.length c.cO, .slice c.aB c.bs.length c.cB, .slice c.aC c.cs.length c.cC, .slice c.aF c.fs.length c.cF, .slice c.aN c.ns.length c.cN] 29)) (.map #[] 0)).alloc (.stringIter Cm.kinds 0)
   simp at this
   exact this
  have := Hp.new ((w.alloc (Obj.cells #[.int .i64 c.n, .slice c.aL c.ls.length c.cL, .slice c.aG c.gs.length c.cG, .slice c.aO c.os.length c.cO, .slice c.aB c.bs.length c.cB, .slice c.aC c.cs.length c.cC, .slice c.aF c.fs.length c.cF, .slice c.aN c.ns.length c.cN] 29)).alloc (.map #[] 0)) (.stringIter Cm.kinds 0)
  simp at this
  exact this
 have HST := Lib.hid hst
 clear hst
 go_enter Tryz.func72, Tryz.ntmps72
 go_wp2
 go_loopw [5] (fun _ wr => ∃ k : Nat, k ≤ 6 ∧ CL w wr c k) (fun _ wr => 6 - iterPos wr (w.heap.size + 2))
 case atStart => exact ⟨0, by omega, HST.out⟩
 obtain ⟨k, hk, hi⟩ := hrel
 have hip := hi.it.pos
 by_cases hlt : k < 6
 ·
  obtain ⟨wn, hnx, hit, hgr⟩ := next_kind wr _ k hi.it hlt
  have lo := below_grown hi.low hgr (by omega) hi.low.size
  have hbx := hi.box.grown hgr (fun e => by injection e with e; omega)
  have hmp := hi.map.grown hgr (fun e => by injection e with e; omega)
  have c0 := hbx.cell 0
  have c1 := hbx.cell 1
  have c2 := hbx.cell 2
  have c3 := hbx.cell 3
  have c4 := hbx.cell 4
  have c5 := hbx.cell 5
  have c6 := hbx.cell 6
  have c7 := hbx.cell 7
  simp only [zD, zE, zF] at c0 c1 c2 c3 c4 c5 c6 c7
  have HIP := Lib.hid hip
  clear hip
  go_wp2_with fail
  refine (listed_any c (Cm.kindAt k) wn).mono ?_
  rintro e w2 ⟨rfl, hb2⟩
  obtain ⟨A, q, hl⟩ := lstV_ex c (Cm.kindAt k)
  rw [hl]
  have hit2 := hit.below hb2 hit.lt
  have hmp2 := hmp.below hb2 hmp.lt
  have hbx2 := hbx.below hb2 hbx.lt
  have lo2 := lo.trans (hb2.mono lo.size)
  obtain ⟨w3, hup, hmp3, hgr3⟩ := store_new w2 _ (ents (cntL c) k) k (Cm.kindAt k) (.int .i64 (cntL c k)) hmp2 (find_new _ _ hlt)
  rw [← ents_succ] at hmp3
  have hup' : (Instr.mapUpdate 108 (.map (some (w.heap.size + 1))) (.int .i32 (Cm.kindAt k)) (.int .i64 ((Cm.lstS c (Cm.kindAt k)).length : Int))).run Tryz.prog w2 = .ok () w3 := hup
  have hfin : CL w w3 c (k + 1) := ⟨below_grown lo2 hgr3 (by omega) lo2.size, hbx2.grown hgr3 (fun e => by injection e with e; omega), hmp3, hit2.grown hgr3 (fun e => by injection e with e; omega)⟩
  clear hl hup hnx c0 c1 c2 c3 c4 c5 c6 c7
  go_wp2
  go_roundw
  case rel => exact ⟨k + 1, by omega, hfin⟩
  case measure => rw [HIP.out, hfin.it.pos]; omega
 obtain rfl : k = 6 := by omega
 have hnx := next_kend wr _ hi.it
 have hbx := hi.box
 have c0 := hbx.cell 0
 have c1 := hbx.cell 1
 simp only [zD, zE, zF] at c0 c1
 obtain ⟨w2, hu1, hmp1, hgr1⟩ := store_old wr _ (ents (cntL c) 6) 6 105 (.int .i64 c.n) _ 0 _ hi.map (find_old _ 0 (by omega)) (ents_get _ 0 (by omega)) rfl
 rw [show (Value.int .i32 105) = .int .i32 (Cm.kindAt 0) from rfl, modify_ents _ 0 _ (by omega)] at hmp1
 have hbx1 := hbx.grown hgr1 (fun e => by injection e with e; omega)
 have d1 := hbx1.cell 1
 simp only [zD, zE, zF] at d1
 obtain ⟨w3, hu2, hmp2, hgr2⟩ := store_old w2 _ _ 6 108 (.int .i64 (c.ls.length : Int)) _ 1 _ hmp1 (find_old _ 1 (by omega)) (ents_get _ 1 (by omega)) rfl
 rw [show (Value.int .i32 108) = .int .i32 (Cm.kindAt 1) from rfl, modify_ents _ 1 _ (by omega)] at hmp2
 have hfin : Hp w3 (w.heap.size + 1) (cmap (numL c) 6) := by
  unfold cmap
  rw [ents_cong (numL c) _ 6 ?_]
  ·
   exact hmp2
  intro i hi
  match i, hi with
  | 0, _ => rfl
  | 1, _ => rfl
  | 2, _ => rfl
  | 3, _ => rfl
  | 4, _ => rfl
  | 5, _ => rfl
 have lo := below_grown (below_grown hi.low hgr1 (by omega) hi.low.size) hgr2 (by omega) (Nat.le_trans hi.low.size hgr1.size)
 clear hmp1 hmp2 hi hbx hbx1
 go_wp2
 go_ret
 exact ⟨_, rfl, by omega, hfin, lo⟩
end Go.Proofs.YtpejilhdhkmcjaaGreatDoor
