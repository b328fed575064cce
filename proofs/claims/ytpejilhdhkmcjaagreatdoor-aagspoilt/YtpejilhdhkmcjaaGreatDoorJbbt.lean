/- Made of layer 4: the way to the graph. -/
import Derived.Test.YtpejilhdhkmcjaaGreatDoorJbAl
import Derived.Test.YtpejilhdhkmcjaaGreatDoorJbbr
import Derived.Test.YtpejilhdhkmcjaaGreatDoorJbbs
namespace Go.Proofs.YtpejilhdhkmcjaaGreatDoor
open Go.RowKit

theorem MB.start (w : World) (A0 : Option Addr) (c0 : Nat) (zs : List Int) : MB w ((((w.alloc (Obj.cells #[.slice A0 zs.length c0] 34)).alloc (Obj.cells #[.int .i64 0, .slice none 0 0, .slice none 0 0, .slice none 0 0, .slice none 0 0, .slice none 0 0, .slice none 0 0, .slice none 0 0] 29)).alloc (Obj.cells #[.int .i64 0] 3)).alloc (Obj.cells #[.int .i64 0, .slice none 0 0, .slice none 0 0, .slice none 0 0, .slice none 0 0, .slice none 0 0, .slice none 0 0, .slice none 0 0] 29)) w.heap.size (w.heap.size + 1) (w.heap.size + 1 + 1) (w.heap.size + 1 + 1 + 1) A0 c0 zs 0 (.int .i64 0) (.slice none 0 0) (.slice none 0 0) (.slice none 0 0) (.slice none 0 0) (.slice none 0 0) (.slice none 0 0) (.slice none 0 0) := by
 have b1 := Blk.new w 34 #[.slice A0 zs.length c0]
 have b2 := Blk.new (w.alloc (Obj.cells #[.slice A0 zs.length c0] 34)) 29 #[.int .i64 0, .slice none 0 0, .slice none 0 0, .slice none 0 0, .slice none 0 0, .slice none 0 0, .slice none 0 0, .slice none 0 0]
 have b3 := Blk.new ((w.alloc (Obj.cells #[.slice A0 zs.length c0] 34)).alloc (Obj.cells #[.int .i64 0, .slice none 0 0, .slice none 0 0, .slice none 0 0, .slice none 0 0, .slice none 0 0, .slice none 0 0, .slice none 0 0] 29)) 3 #[.int .i64 0]
 have b4 := Blk.new (((w.alloc (Obj.cells #[.slice A0 zs.length c0] 34)).alloc (Obj.cells #[.int .i64 0, .slice none 0 0, .slice none 0 0, .slice none 0 0, .slice none 0 0, .slice none 0 0, .slice none 0 0, .slice none 0 0] 29)).alloc (Obj.cells #[.int .i64 0] 3)) 29 #[.int .i64 0, .slice none 0 0, .slice none 0 0, .slice none 0 0, .slice none 0 0, .slice none 0 0, .slice none 0 0, .slice none 0 0]
 simp only [heap_size_alloc] at b2 b3 b4
 refine ⟨rfl, rfl, rfl, rfl, (((lowAlloc w _).alloc (by simp) _).alloc (by simp; omega) _).alloc (by simp; omega) _, ((b1.alloc _).alloc _).alloc _, (b2.alloc _).alloc _, b3.alloc _, b4⟩

theorem heap_size_set (w : World) (p : Addr) (u : Value) : (w.setCell p u).heap.size = w.heap.size := by simp
/-- What the latches' loop keeps. -/
def LatRel (w : World) (hL hR hA hC : Nat) (A0 : Option Addr) (c0 : Nat) (zs : List Int) (n : Int) (m N : Nat) (A : Option Addr) (cg : Nat) (gs : List (Int × Int)) (B1 : Nat) (iv : Value) (wr : World) : Prop :=
 ∃ (a : Nat) (ls : List (Int × Int)) (vL : Value), iv = .int .i64 (ls.length : Int) ∧ ls.length ≤ m ∧ a ≤ 20 + 2 * ls.length ∧ wr.ownsRow B1 49 2 vL ls.length (flat ls) ∧ Gr wr B1 A gs ∧ (∀ q ∈ ls, Cm.latB N gs.length q = true) ∧ B1 ≤ wr.heap.size ∧
  MB w wr hL hR hA hC A0 c0 zs a (.int .i64 n) vL (.slice A gs.length cg) (.slice none 0 0) (.slice none 0 0) (.slice none 0 0) (.slice none 0 0) (.slice none 0 0)

theorem latch_next {w w9 w10 : World} {hL hR hA hC : Nat} {A0 : Option Addr} {c0 : Nat} {zs : List Int} {n : Int} {m N a : Nat} {A : Option Addr} {cg : Nat} {gs : List (Int × Int)} {B1 : Nat} {ls : List (Int × Int)} {vL v' : Value} {y r : Int}
  (h10 : MB w w10 hL hR hA hC A0 c0 zs (a + 1 + 1) (.int .i64 n) vL (.slice A gs.length cg) (.slice none 0 0) (.slice none 0 0) (.slice none 0 0) (.slice none 0 0) (.slice none 0 0))
  (hrow : w10.ownsRow B1 49 2 v' (ls.length + 1) (flat ls ++ [.int .i64 y, .int .i64 r])) (hG : Gr w9 B1 A gs) (hgr : w9.grownBy w10 vL.ownBlock)
  (hrow7 : w9.ownsRow B1 49 2 vL ls.length (flat ls)) (hbs : w.heap.size + 4 ≤ B1) (hB9 : B1 ≤ w9.heap.size) (hneC : ∀ ad, A = some ad → ad.block ≠ hC) (hlat : ∀ q ∈ ls, Cm.latB N gs.length q = true) (hy : Gm.litB N gs.length y = true)
  (hr0 : 0 ≤ r) (hr2 : r ≤ 2) (hlm : ls.length + 1 ≤ m) (ha : a ≤ 20 + 2 * ls.length) :
  LatRel w hL hR hA hC A0 c0 zs n m N A cg gs B1 (.int .i64 ((ls.length : Int) + 1)) (w10.setCell ⟨hC, 1, none⟩ v') := by
 have e4 := h10.eC
 have hs10 := hgr.size
 refine ⟨a + 1 + 1, ls ++ [(y, r)], v', by simp, by simpa using hlm, by simp; omega, ?_, ?_, ?_, by simp; omega, h10.put 1 v' (by rfl)⟩
 ·
  have := row_set hrow (p := ⟨hC, 1, none⟩) (by simp; omega) v'
  rw [List.length_append, List.length_singleton, flat_append]
  exact this
 ·
  have h2 := hG.grown hgr hB9 (fun k e => row_base hrow7 k e)
  exact h2.set (p := ⟨hC, 1, none⟩) hneC v'
 intro q hq
 rcases List.mem_append.1 hq with h | h
 ·
  exact hlat q h
 simp at h
 subst h
 simp [Cm.latB, hy, hr0, hr2]

/-- The seeds' row. -/
def SeedRel (w : World) (hL hR hA hC : Nat) (A0 : Option Addr) (c0 : Nat) (zs : List Int) (n : Int) (v i : Value) (wr : World) : Prop :=
 ∃ (k a : Nat) (us : List Int), i = .int .i64 (k : Int) ∧ k ≤ 8 ∧ a + k ≤ 11 ∧ 3 ≤ a ∧ us.length ≤ 8 ∧ us.length + k ≤ 8 ∧ wr.ownsRow (w.heap.size + 4) 40 1 v us.length (us.map (.int .u16)) ∧ (∀ u ∈ us, 0 ≤ u ∧ u ≤ 65535) ∧
  MB w wr hL hR hA hC A0 c0 zs a (.int .i64 n) (.slice none 0 0) (.slice none 0 0) (.slice none 0 0) (.slice none 0 0) (.slice none 0 0) (.slice none 0 0) (.slice none 0 0)

theorem row_us {w : World} {base : Nat} {v : Value} {us : List Int} (h : w.ownsRow base 40 1 v us.length (us.map (.int .u16))) (hr : ∀ u ∈ us, 0 ≤ u ∧ u ≤ 65535) : ∃ A c, v = .slice A us.length c ∧ Us w w.heap.size A us := by
 obtain ⟨_, h2⟩ := h
 rcases h2 with ⟨rfl, h0⟩ | ⟨g, cap, cur, rfl, _, hh, hn, _, hs, ht⟩
 ·
  exact ⟨none, 0, by rw [h0], fun k hk => by omega⟩
 refine ⟨_, cap, rfl, fun k hk => ⟨g, 0, rfl, Blk.lt (t := 40) hh, ?_, hr _ (by simp)⟩⟩
 have f1 : (us.map (Value.int .u16))[k]? = some (.int .u16 us[k]) := by simp [hk]
 rw [← ht, List.getElem?_take_of_lt (by omega)] at f1
 rw [Nat.zero_add, Blk.cell (t := 40) hh, ← Array.getElem?_toList]
 exact f1
set_option maxRecDepth 100000 in
set_option maxHeartbeats 4000000 in
theorem made4_any (A0 : Option Addr) (c0 : Nat) (zs : List Int) (w : World) (hm : zs.length ≤ maxLen) (hU : Us w w.heap.size A0 zs) :
  Calls Tryz.prog 15 #[.slice A0 zs.length c0] w (MadeRet w) := by
 have hmf : ∀ (fn : Fn) (first cap : Array Value) (w : World), (Instr.makeFunc fn first cap).run Tryz.prog w = .ok (.func fn first cap) w := fun _ _ _ _ => rfl
 have h0 := MB.start w A0 c0 zs
 have HU := Lib.hid hU
 have HM := Lib.hid hm
 clear hU hm
 go_enter Tryz.func15, Tryz.ntmps15
 go_upto_region 4 with fail
 generalize ((((w.alloc (Obj.cells #[.slice A0 zs.length c0] 34)).alloc (Obj.cells #[.int .i64 0, .slice none 0 0, .slice none 0 0, .slice none 0 0, .slice none 0 0, .slice none 0 0, .slice none 0 0, .slice none 0 0] 29)).alloc (Obj.cells #[.int .i64 0] 3)).alloc (Obj.cells #[.int .i64 0, .slice none 0 0, .slice none 0 0, .slice none 0 0, .slice none 0 0, .slice none 0 0, .slice none 0 0, .slice none 0 0] 29)) = V at *
 generalize w.heap.size + 1 + 1 + 1 = hC at *
 generalize w.heap.size + 1 + 1 = hA at *
 generalize w.heap.size + 1 = hR at *
 obtain ⟨hL, hLe⟩ : ∃ hL, hL = w.heap.size := ⟨_, rfl⟩
 rw [← hLe] at h0
 rw [← hLe]
 clear hLe
 go_wp2_with fail
 refine (h0.call HU.out HM.out (by omega) 4 (by omega) (by omega)).mono ?_
 rintro e w1 ⟨rfl, h1, -⟩
 clear h0
 obtain ⟨hn0, hn1⟩ := Cm.pick_lt zs 0 4 (by omega)
 generalize Cm.pickS zs 0 4 = n at *
 have hf := h1.cb.frozen 0
 have hc := h1.cb.cell 0
 simp only [zD, zE] at hc
 replace h1 := h1.put 0 (.int .i64 n) (by rfl)
 go_upto_region 5 with fail
 clear hf hc
 generalize w1.setCell ⟨hC, 0, none⟩ (.int .i64 n) = V1 at *
 go_wp2_with fail
 refine (h1.call HU.out HM.out (by omega) 3 (by omega) (by omega)).mono ?_
 rintro e w2 ⟨rfl, h2, -⟩
 clear h1
 obtain ⟨hq0, hq1⟩ := Cm.pick_lt zs (0 + 1) 3 (by omega)
 generalize Cm.pickS zs (0 + 1) 3 = q at *
 go_wp2_with fail
 refine (h2.call HU.out HM.out (by omega) 9 (by omega) (by omega)).mono ?_
 rintro e w3 ⟨rfl, h3, -⟩
 clear h2
 obtain ⟨hk0, hk1⟩ := Cm.pick_lt zs (0 + 1 + 1) 9 (by omega)
 generalize Cm.pickS zs (0 + 1 + 1) 9 = kk at *
 obtain ⟨kn, rfl⟩ := Int.eq_ofNat_of_zero_le hk0
 have hst : SeedRel w hL hR hA hC A0 c0 zs n (.slice none 0 0) (.int .i64 (kn : Int)) w3 := ⟨kn, 3, [], rfl, by omega, by omega, by omega, by simp, by simp; omega, World.ownsRow_nil w3 _ _ _, fun u hu => by simp at hu, h3⟩
 have HST := Lib.hid hst
 clear hst h3
 go_wp2
 go_loopw [7, 8] (fun v i wr => SeedRel w hL hR hA hC A0 c0 zs n v i wr) (fun _ i _ => (intOf i).toNat)
 case atStart => exact HST.out
 obtain ⟨k, a, us, rfl, hk8, hak, ha3, hul, hulk, hrow, hur, h4⟩ := hrel
 cases k with
 | succ j =>
  have hd : decide ((0 : Int) < ((j : Int) + 1)) = true := decide_eq_true (by omega)
  go_wp2_with fail
  refine (h4.call HU.out HM.out (by omega) 65536 (by omega) (by omega)).mono ?_
  rintro e w4 ⟨rfl, h5, hse⟩
  have hrow5 : w4.ownsRow (w.heap.size + 4) 40 1 u7 us.length (us.map (.int .u16)) := hse ▸ row_set hrow (by have := h4.eA; simp; omega) _
  obtain ⟨hp0, hp1⟩ := Cm.pick_lt zs a 65536 (by omega)
  generalize Cm.pickS zs a 65536 = x at *
  have hsz := h5.size
  have HRUN : Hid (∀ ty, ∃ v' w', (Builtin.append_ #[34, 34] ty #[u7, .slice (some ⟨w4.heap.size, 0, none⟩) 1 1]).run Tryz.prog (w4.alloc (Obj.cells #[.int .u16 x] 40)) = .ok v' w' ∧ (w'.ownsRow (w.heap.size + 4) 40 1 v' (us.length + 1) (us.map (.int .u16) ++ [.int .u16 x]) ∧ (w4.alloc (Obj.cells #[.int .u16 x] 40)).grownBy w' u7.ownBlock)) := by
   intro ty
   obtain ⟨v', w', r1, r2, r3, _⟩ := app_u16 (w4.alloc (Obj.cells #[.int .u16 x] 40)) (w.heap.size + 4) ty u7 us.length _ (World.ownsRow.alloc hrow5 _) w4.heap.size 1 x (Blk.new w4 _ _) (by omega) (by simp; omega)
   exact ⟨v', w', r1, r2, r3⟩
  have HRB := Lib.hid (row_base hrow5)
  have HUR : Hid (∀ u ∈ us ++ [x], 0 ≤ u ∧ u ≤ 65535) := fun u hu => by
   rcases List.mem_append.1 hu with h | h
   ·
    exact hur u h
   simp at h; omega
  clear h4 hrow hse hrow5 hur
  go_wp2_with (at_builtin; go_loud (refine wpList_app rfl (.tmp 29) (.tmp 33) 34 rfl _ _ rfl rfl _ HRUN.out ?_); intro v' w5 hR5)
  go_roundw
  case rel => exact ⟨j, a + 1, us ++ [x], by go_num, by omega, by omega, by omega, by simp; omega, by simp; omega, by simpa using hR5.1, HUR.out, (h5.alloc _).grown hR5.2 HRB.out⟩
  case measure => simp [intOf]
 | zero =>
  obtain ⟨As, cs, rfl, hUs⟩ := row_us hrow hur
  have hsz := h4.size
  have c0' := h4.cb.cell 0
  simp only [zD, zE] at c0'
  have HMD := Lib.hid (made2_any (n + (1 + q)) As cs us wr (by omega) (by omega) (by unfold maxLen; omega) hUs)
  clear hrow hUs hur
  go_wp2_with fail
  refine HMD.out.mono ?_
  rintro e w6 ⟨A, cg, gs, last, rfl, hG, hgood, hb6, hsep⟩
  obtain ⟨N, hN⟩ := Int.eq_ofNat_of_zero_le (show 0 ≤ n + (1 + q) by omega)
  rw [hN] at hgood
  rw [hN]
  obtain ⟨m, hm⟩ := Int.eq_ofNat_of_zero_le (show 0 ≤ 1 + q by omega)
  have hNm : (N : Int) = n + m := by omega
  have hm3 : m ≤ 3 := by omega
  have hm1 : 1 ≤ m := by omega
  rw [hm]
  replace h4 := (h4.below hb6).alloc (Obj.cells #[.int .i64 (N : Int), .slice A gs.length cg] 64)
  have hgb := Blk.new w6 64 #[.int .i64 (N : Int), .slice A gs.length cg]
  have hGa := (hG.below (lowAlloc w6 (Obj.cells #[.int .i64 (N : Int), .slice A gs.length cg] 64)) (Nat.le_refl _))
  have hsz6 := hb6.size
  have HNM := Lib.hid hNm
  have HQ := Lib.hid hm
  clear HMD c0' hb6 hG hN hNm hm HST
  go_upto_region 12 with fail
  generalize w6.alloc (Obj.cells #[.int .i64 (N : Int), .slice A gs.length cg] 64) = W6 at *
  have hne : ∀ ad, A = some ad → ad.block ≠ hC := fun ad e => by
   have e4 := h4.eC
   rcases hsep ad e with h | h <;> omega
  have g1 := hgb.cell 1
  have c2 := h4.cb.cell 2
  have f2 := h4.cb.frozen 2
  simp only [zD, zE, zF] at g1 c2
  replace h4 := h4.put 2 (.slice A gs.length cg) (by rfl)
  have hgx := hgb.far (p := ⟨hC, 2, none⟩) (by have := h4.eC; simp; omega) (.slice A gs.length cg)
  have hGx := hGa.set (p := ⟨hC, 2, none⟩) hne (.slice A gs.length cg)
  go_upto_region 13 with fail
  clear g1 c2 f2 hgb hGa
  generalize W6.setCell ⟨hC, 2, none⟩ (.slice A gs.length cg) = W7 at *
  have k0 := hgx.cell 0
  have k1 := hgx.cell 1
  simp only [zD, zE, zF] at k0 k1
  have hlt7 := hgx.lt
  obtain ⟨hr, hfew, hwf, hlit⟩ := hgood
  obtain ⟨hr0, hr1, hr2, _⟩ := right_facts hr
  go_wp2_with fail
  refine (refVars_any N A gs.length cg W7 hr0 hr1 (by omega)).mono ?_
  rintro e w8 ⟨rfl, hb8⟩
  replace h4 := h4.below hb8
  replace hgx := hgx.below hb8 hgx.lt
  clear k0 k1
  have hG8 : Gr w8 w8.heap.size A gs := (hGx.below hb8 (by omega)).more (by have := hb8.size; omega)
  have hst : LatRel w hL hR hA hC A0 c0 zs n m N A cg gs w8.heap.size (.int .i64 0) w8 := ⟨a, [], .slice none 0 0, rfl, by simp, by simp; omega, World.ownsRow_nil w8 _ _ _, hG8, fun q hq => by simp at hq, Nat.le_refl _, h4⟩
  have HST2 := Lib.hid hst
  have HR := Lib.hid hr
  have HLT := Lib.hid hlit
  have HW := Lib.hid hwf
  have hbs := h4.size
  clear hst hr hlit hwf hGx hG8 hgx hb8 h4
  go_wp2
  go_loopw [12, 13] (fun iv _ wr => LatRel w hL hR hA hC A0 c0 zs n m N A cg gs w8.heap.size iv wr) (fun iv _ _ => m - (intOf iv).toNat)
  case atStart => exact HST2.out
  obtain ⟨a, ls, vL, rfl, hlm, ha, hrow, hG, hlat, hB1, h5⟩ := hrel
  by_cases hlt : ls.length < m
  ·
   have hd : decide ((ls.length : Int) < (m : Int)) = true := decide_eq_true (by omega)
   go_wp2_with fail
   refine (h5.call HU.out HM.out (by omega) (2 * ((N : Int) + 1 + (gs.length : Int))) (by omega) (by omega)).mono ?_
   rintro e w5 ⟨rfl, h6, hse⟩
   have hne2 : ∀ ad, A = some ad → ad.block ≠ hA := fun ad e => by
    have e4 := h5.eA
    rcases hsep ad e with h | h <;> omega
   have hrow6 : w5.ownsRow w8.heap.size 49 2 vL ls.length (flat ls) := hse ▸ row_set hrow (by have := h5.eA; simp; omega) _
   have hG6 : Gr w5 w8.heap.size A gs := hse ▸ hG.set (p := ⟨hA, 0, none⟩) hne2 _
   have hsz5 := congrArg (fun W => W.heap.size) hse
   simp only [heap_size_set] at hsz5
   obtain ⟨hp0, hp1⟩ := Cm.pick_lt zs a (2 * ((N : Int) + 1 + (gs.length : Int))) (by omega)
   generalize Cm.pickS zs a (2 * ((N : Int) + 1 + (gs.length : Int))) = y1 at *
   have hneC : ∀ ad, A = some ad → ad.block ≠ hC := fun ad e => by
    have e4 := h5.eC
    rcases hsep ad e with h | h <;> omega
   clear hrow hG hse h5
   replace h6 := h6.drew
   have HST6 : Hid (∀ W, w5.drew.setCell ⟨hA, 0, none⟩ (.int .i64 (((a + 1 : Nat) : Int) + 1)) = W → W.ownsRow w8.heap.size 49 2 vL ls.length (flat ls) ∧ Gr W w8.heap.size A gs) := fun W e => e ▸ ⟨row_set (w := w5.drew) hrow6 (by have := h6.eA; simp; omega) _, Gr.set (w := w5.drew) hG6 hne2 _⟩
   have c1 := h6.cb.cell 1
   simp only [zD, zE, zF] at c1
   by_cases h0 : ls.length = 0
   ·
    have hd0 : ((ls.length : Int) == 0) = true := by rw [h0]; rfl
    have HY := HLT
    clear h0
    go_upto_region 20 with fail
    clear hd hd0
    refine wp_region_held_drew (S := fun _ => True) (by kernel_rfl) trivial (fun hHeld => ?_)
    refine zT 0 ⟨some 61, _, _, _, _, _⟩ ?_ rfl (by kernel_rfl) (fun _ _ _ h => h) (by rfl) hHeld ?_ ?_
    rotate_left
    ·
     intro w hSw
     (try dsimp only at hSw)
     first | (go_simp; done) | (go_simp; with_reducible rfl) | with_reducible rfl
    try simp only [Act.put, zA, zB, zC]
    refine zT 2 ⟨some 63, _, _, _, _, _⟩ ?_ rfl (by kernel_rfl) (fun _ _ _ h => h) (by rfl) hHeld ?_ ?_
    rotate_left
    ·
     intro w hSw
     (try dsimp only at hSw)
     first | (go_simp; done) | (go_simp; with_reducible rfl) | with_reducible rfl
    try simp only [Act.put, zA, zB, zC]
    refine zT 3 ⟨some 64, _, _, _, _, _⟩ ?_ rfl (by kernel_rfl) (fun _ _ _ h => h) (by rfl) hHeld ?_ ?_
    rotate_left
    ·
     intro w hSw
     (try dsimp only at hSw)
     first | (go_simp; done) | (go_simp; with_reducible rfl) | with_reducible rfl
    try simp only [Act.put, zA, zB, zC]
    refine wpAnyH_ready (rs := [1, 4]) (by kernel_rfl) (by simp) ?_
    refine AllReadyH.cons (o := ⟨some 62, _, _, _, _, _⟩) rfl (fun K hK => ?_) (AllReadyH.cons (o := ⟨some 65, _, _, _, _, _⟩) rfl (fun K hK => ?_) AllReadyH.nil)
    ·
     go_simp
     refine hK.out _ _ ?_ (fun hHeld => ?_)
     ·
      trivial
     clear hK K
     try simp only [Act.put, zA, zB, zC]
     refine wpAnyH_ready (rs := [4]) (by kernel_rfl) (by simp) ?_
     refine AllReadyH.cons (o := ⟨some 65, _, _, _, _, _⟩) rfl (fun K hK => ?_) AllReadyH.nil
     go_simp
     (refine (h6.call HU.out HM.out (by omega) 5 (by omega) (by omega)).mono ?_; rintro e w9 ⟨rfl, h7, hse⟩; obtain ⟨hrow7, hG7⟩ := HST6.out _ hse; have hsz7 := congrArg (fun W => W.heap.size) hse; simp only [heap_size_set] at hsz7; have hsz9 : w8.heap.size ≤ w9.heap.size := (by have h : w5.heap.size = w9.heap.size := hsz7; omega); obtain ⟨hr0, hr1⟩ := Cm.pick_lt zs (a + 1) 5 (by omega); generalize Cm.pickS zs (a + 1) 5 = p5 at *; have HQ5 : Hid (IntKind.i64.wrap (p5.tdiv 2) = p5 / 2) := (by unfold Hid; rw [IntKind.wrap_i64, Int.tdiv_eq_ediv_of_nonneg hr0]; omega); have c1 := h7.cb.cell 1; simp only [zD, zE, zF] at c1)
     refine hK.out _ _ ?_ (fun hHeld => ?_)
     ·
      trivial
     clear hK K
     try simp only [Act.put, zA, zB, zC]
     refine zT 5 ⟨some 66, _, _, _, _, _⟩ ?_ rfl (by kernel_rfl) (fun _ _ _ h => h) (by rfl) hHeld ?_ ?_
     rotate_left
     ·
      intro w hSw
      (try dsimp only at hSw)
      first | (go_simp; done) | (go_simp; with_reducible rfl) | with_reducible rfl
     try simp only [Act.put, zA, zB, zC]
     refine zT 6 ⟨some 67, _, _, _, _, _⟩ ?_ rfl (by kernel_rfl) (fun _ _ _ h => h) (by rfl) hHeld ?_ ?_
     rotate_left
     ·
      intro w hSw
      (try dsimp only at hSw)
      first | (go_simp; done) | (go_simp; with_reducible rfl) | with_reducible rfl
     try simp only [Act.put, zA, zB, zC]
     refine wpAnyH_ready (rs := [7]) (by kernel_rfl) (by simp) ?_
     refine AllReadyH.cons (o := ⟨some 68, _, _, _, _, _⟩) rfl (fun K hK => ?_) AllReadyH.nil
     go_simp
     (have h8 := h7.alloc (Obj.cells #[.int .i64 last, .int .i64 (IntKind.i64.wrap (p5.tdiv 2))] 49); have hbk := Blk.new w9 49 #[.int .i64 last, .int .i64 (IntKind.i64.wrap (p5.tdiv 2))]; have hrow8 := World.ownsRow.alloc hrow7 (Obj.cells #[.int .i64 last, .int .i64 (IntKind.i64.wrap (p5.tdiv 2))] 49); have hG8 := hG7.below (lowAlloc w9 (Obj.cells #[.int .i64 last, .int .i64 (IntKind.i64.wrap (p5.tdiv 2))] 49)) hsz9; have hs8 : w8.heap.size ≤ (w9.alloc (Obj.cells #[.int .i64 last, .int .i64 (IntKind.i64.wrap (p5.tdiv 2))] 49)).heap.size := (by simp; omega); generalize w9.alloc (Obj.cells #[.int .i64 last, .int .i64 (IntKind.i64.wrap (p5.tdiv 2))] 49) = V9 at *; have c1 := h8.cb.cell 1; simp only [zD, zE, zF] at c1)
     refine hK.out _ _ ?_ (fun hHeld => ?_)
     ·
      trivial
     clear hK K
     try simp only [Act.put, zA, zB, zC]
     refine wpAnyH_ready (rs := [8]) (by kernel_rfl) (by simp) ?_
     refine AllReadyH.cons (o := ⟨some 69, _, _, _, _, _⟩) rfl (fun K hK => ?_) AllReadyH.nil
     (rw [if_pos (by rfl)]; refine oper_app (.tmp 62) (.tmp 68) 24 rfl vL (.slice (some ⟨w9.heap.size, 0, none⟩) 1 1) rfl rfl (fun v' w' => w'.ownsRow w8.heap.size 49 2 v' (ls.length + 1) (flat ls ++ [.int .i64 last, .int .i64 (IntKind.i64.wrap (p5.tdiv 2))]) ∧ V9.grownBy w' vL.ownBlock) (fun ty => (by obtain ⟨v', w', r1, r2, r3, _⟩ := app_latch V9 w8.heap.size ty vL ls.length _ hrow8 w9.heap.size 1 last (IntKind.i64.wrap (p5.tdiv 2)) hbk (by omega) hs8; exact ⟨v', w', r1, r2, r3⟩)) ?_; intro v' w10 hR10; obtain ⟨AL, cL, rfl⟩ := row_slice hR10.1; have h10 := h8.grown hR10.2 (fun k e => Nat.le_trans hbs (row_base hrow8 k e)); have c1 := h10.cb.cell 1; have f1 := h10.cb.frozen 1; simp only [zD, zE, zF] at c1)
     refine hK.out _ _ ?_ (fun hHeld => ?_)
     ·
      trivial
     clear hK K
     try simp only [Act.put, zA, zB, zC]
     refine zT 9 ⟨some 70, _, _, _, _, _⟩ ?_ rfl (by kernel_rfl) (fun _ _ _ h => h) (by rfl) hHeld ?_ ?_
     rotate_left
     ·
      intro w hSw
      (try dsimp only at hSw)
      first | (go_simp; done) | (go_simp; with_reducible rfl) | with_reducible rfl
     try simp only [Act.put, zA, zB, zC]
     refine wpAnyH_ready (rs := [10]) (by kernel_rfl) (by simp) ?_
     refine AllReadyH.cons (o := ⟨none, _, _, _, _, _⟩) rfl (fun K hK => ?_) AllReadyH.nil
     go_simp
     refine hK.out _ _ ?_ (fun hHeld => ?_)
     ·
      trivial
     clear hK K
     try simp only [Act.put, zA, zB, zC]
     refine wpAnyH_done (by kernel_rfl) ?_ _
     go_wp2
     go_roundw
     case rel => exact latch_next (m := m) h10 hR10.1 hG8 hR10.2 hrow8 hbs hs8 hneC hlat HY.out (by rw [HQ5.out]; omega) (by rw [HQ5.out]; omega) (by omega) (by omega)
     case measure => simp [intOf]; omega
    go_simp
    (refine (h6.call HU.out HM.out (by omega) 5 (by omega) (by omega)).mono ?_; rintro e w9 ⟨rfl, h7, hse⟩; obtain ⟨hrow7, hG7⟩ := HST6.out _ hse; have hsz7 := congrArg (fun W => W.heap.size) hse; simp only [heap_size_set] at hsz7; have hsz9 : w8.heap.size ≤ w9.heap.size := (by have h : w5.heap.size = w9.heap.size := hsz7; omega); obtain ⟨hr0, hr1⟩ := Cm.pick_lt zs (a + 1) 5 (by omega); generalize Cm.pickS zs (a + 1) 5 = p5 at *; have HQ5 : Hid (IntKind.i64.wrap (p5.tdiv 2) = p5 / 2) := (by unfold Hid; rw [IntKind.wrap_i64, Int.tdiv_eq_ediv_of_nonneg hr0]; omega); have c1 := h7.cb.cell 1; simp only [zD, zE, zF] at c1)
    refine hK.out _ _ ?_ (fun hHeld => ?_)
    ·
     trivial
    clear hK K
    try simp only [Act.put, zA, zB, zC]
    refine zT 5 ⟨some 66, _, _, _, _, _⟩ ?_ rfl (by kernel_rfl) (fun _ _ _ h => h) (by rfl) hHeld ?_ ?_
    rotate_left
    ·
     intro w hSw
     (try dsimp only at hSw)
     first | (go_simp; done) | (go_simp; with_reducible rfl) | with_reducible rfl
    try simp only [Act.put, zA, zB, zC]
    refine zT 6 ⟨some 67, _, _, _, _, _⟩ ?_ rfl (by kernel_rfl) (fun _ _ _ h => h) (by rfl) hHeld ?_ ?_
    rotate_left
    ·
     intro w hSw
     (try dsimp only at hSw)
     first | (go_simp; done) | (go_simp; with_reducible rfl) | with_reducible rfl
    try simp only [Act.put, zA, zB, zC]
    refine wpAnyH_ready (rs := [1, 7]) (by kernel_rfl) (by simp) ?_
    refine AllReadyH.cons (o := ⟨some 62, _, _, _, _, _⟩) rfl (fun K hK => ?_) (AllReadyH.cons (o := ⟨some 68, _, _, _, _, _⟩) rfl (fun K hK => ?_) AllReadyH.nil)
    ·
     go_simp
     refine hK.out _ _ ?_ (fun hHeld => ?_)
     ·
      trivial
     clear hK K
     try simp only [Act.put, zA, zB, zC]
     refine wpAnyH_ready (rs := [7]) (by kernel_rfl) (by simp) ?_
     refine AllReadyH.cons (o := ⟨some 68, _, _, _, _, _⟩) rfl (fun K hK => ?_) AllReadyH.nil
     go_simp
     (have h8 := h7.alloc (Obj.cells #[.int .i64 last, .int .i64 (IntKind.i64.wrap (p5.tdiv 2))] 49); have hbk := Blk.new w9 49 #[.int .i64 last, .int .i64 (IntKind.i64.wrap (p5.tdiv 2))]; have hrow8 := World.ownsRow.alloc hrow7 (Obj.cells #[.int .i64 last, .int .i64 (IntKind.i64.wrap (p5.tdiv 2))] 49); have hG8 := hG7.below (lowAlloc w9 (Obj.cells #[.int .i64 last, .int .i64 (IntKind.i64.wrap (p5.tdiv 2))] 49)) hsz9; have hs8 : w8.heap.size ≤ (w9.alloc (Obj.cells #[.int .i64 last, .int .i64 (IntKind.i64.wrap (p5.tdiv 2))] 49)).heap.size := (by simp; omega); generalize w9.alloc (Obj.cells #[.int .i64 last, .int .i64 (IntKind.i64.wrap (p5.tdiv 2))] 49) = V9 at *; have c1 := h8.cb.cell 1; simp only [zD, zE, zF] at c1)
     refine hK.out _ _ ?_ (fun hHeld => ?_)
     ·
      trivial
     clear hK K
     try simp only [Act.put, zA, zB, zC]
     refine wpAnyH_ready (rs := [8]) (by kernel_rfl) (by simp) ?_
     refine AllReadyH.cons (o := ⟨some 69, _, _, _, _, _⟩) rfl (fun K hK => ?_) AllReadyH.nil
     (rw [if_pos (by rfl)]; refine oper_app (.tmp 62) (.tmp 68) 24 rfl vL (.slice (some ⟨w9.heap.size, 0, none⟩) 1 1) rfl rfl (fun v' w' => w'.ownsRow w8.heap.size 49 2 v' (ls.length + 1) (flat ls ++ [.int .i64 last, .int .i64 (IntKind.i64.wrap (p5.tdiv 2))]) ∧ V9.grownBy w' vL.ownBlock) (fun ty => (by obtain ⟨v', w', r1, r2, r3, _⟩ := app_latch V9 w8.heap.size ty vL ls.length _ hrow8 w9.heap.size 1 last (IntKind.i64.wrap (p5.tdiv 2)) hbk (by omega) hs8; exact ⟨v', w', r1, r2, r3⟩)) ?_; intro v' w10 hR10; obtain ⟨AL, cL, rfl⟩ := row_slice hR10.1; have h10 := h8.grown hR10.2 (fun k e => Nat.le_trans hbs (row_base hrow8 k e)); have c1 := h10.cb.cell 1; have f1 := h10.cb.frozen 1; simp only [zD, zE, zF] at c1)
     refine hK.out _ _ ?_ (fun hHeld => ?_)
     ·
      trivial
     clear hK K
     try simp only [Act.put, zA, zB, zC]
     refine zT 9 ⟨some 70, _, _, _, _, _⟩ ?_ rfl (by kernel_rfl) (fun _ _ _ h => h) (by rfl) hHeld ?_ ?_
     rotate_left
     ·
      intro w hSw
      (try dsimp only at hSw)
      first | (go_simp; done) | (go_simp; with_reducible rfl) | with_reducible rfl
     try simp only [Act.put, zA, zB, zC]
     refine wpAnyH_ready (rs := [10]) (by kernel_rfl) (by simp) ?_
     refine AllReadyH.cons (o := ⟨none, _, _, _, _, _⟩) rfl (fun K hK => ?_) AllReadyH.nil
     go_simp
     refine hK.out _ _ ?_ (fun hHeld => ?_)
     ·
      trivial
     clear hK K
     try simp only [Act.put, zA, zB, zC]
     refine wpAnyH_done (by kernel_rfl) ?_ _
     go_wp2
     go_roundw
     case rel => exact latch_next (m := m) h10 hR10.1 hG8 hR10.2 hrow8 hbs hs8 hneC hlat HY.out (by rw [HQ5.out]; omega) (by rw [HQ5.out]; omega) (by omega) (by omega)
     case measure => simp [intOf]; omega
    go_simp
    (have h8 := h7.alloc (Obj.cells #[.int .i64 last, .int .i64 (IntKind.i64.wrap (p5.tdiv 2))] 49); have hbk := Blk.new w9 49 #[.int .i64 last, .int .i64 (IntKind.i64.wrap (p5.tdiv 2))]; have hrow8 := World.ownsRow.alloc hrow7 (Obj.cells #[.int .i64 last, .int .i64 (IntKind.i64.wrap (p5.tdiv 2))] 49); have hG8 := hG7.below (lowAlloc w9 (Obj.cells #[.int .i64 last, .int .i64 (IntKind.i64.wrap (p5.tdiv 2))] 49)) hsz9; have hs8 : w8.heap.size ≤ (w9.alloc (Obj.cells #[.int .i64 last, .int .i64 (IntKind.i64.wrap (p5.tdiv 2))] 49)).heap.size := (by simp; omega); generalize w9.alloc (Obj.cells #[.int .i64 last, .int .i64 (IntKind.i64.wrap (p5.tdiv 2))] 49) = V9 at *; have c1 := h8.cb.cell 1; simp only [zD, zE, zF] at c1)
    refine hK.out _ _ ?_ (fun hHeld => ?_)
    ·
     trivial
    clear hK K
    try simp only [Act.put, zA, zB, zC]
    refine wpAnyH_ready (rs := [1]) (by kernel_rfl) (by simp) ?_
    refine AllReadyH.cons (o := ⟨some 62, _, _, _, _, _⟩) rfl (fun K hK => ?_) AllReadyH.nil
    go_simp
    refine hK.out _ _ ?_ (fun hHeld => ?_)
    ·
     trivial
    clear hK K
    try simp only [Act.put, zA, zB, zC]
    refine wpAnyH_ready (rs := [8]) (by kernel_rfl) (by simp) ?_
    refine AllReadyH.cons (o := ⟨some 69, _, _, _, _, _⟩) rfl (fun K hK => ?_) AllReadyH.nil
    (rw [if_pos (by rfl)]; refine oper_app (.tmp 62) (.tmp 68) 24 rfl vL (.slice (some ⟨w9.heap.size, 0, none⟩) 1 1) rfl rfl (fun v' w' => w'.ownsRow w8.heap.size 49 2 v' (ls.length + 1) (flat ls ++ [.int .i64 last, .int .i64 (IntKind.i64.wrap (p5.tdiv 2))]) ∧ V9.grownBy w' vL.ownBlock) (fun ty => (by obtain ⟨v', w', r1, r2, r3, _⟩ := app_latch V9 w8.heap.size ty vL ls.length _ hrow8 w9.heap.size 1 last (IntKind.i64.wrap (p5.tdiv 2)) hbk (by omega) hs8; exact ⟨v', w', r1, r2, r3⟩)) ?_; intro v' w10 hR10; obtain ⟨AL, cL, rfl⟩ := row_slice hR10.1; have h10 := h8.grown hR10.2 (fun k e => Nat.le_trans hbs (row_base hrow8 k e)); have c1 := h10.cb.cell 1; have f1 := h10.cb.frozen 1; simp only [zD, zE, zF] at c1)
    refine hK.out _ _ ?_ (fun hHeld => ?_)
    ·
     trivial
    clear hK K
    try simp only [Act.put, zA, zB, zC]
    refine zT 9 ⟨some 70, _, _, _, _, _⟩ ?_ rfl (by kernel_rfl) (fun _ _ _ h => h) (by rfl) hHeld ?_ ?_
    rotate_left
    ·
     intro w hSw
     (try dsimp only at hSw)
     first | (go_simp; done) | (go_simp; with_reducible rfl) | with_reducible rfl
    try simp only [Act.put, zA, zB, zC]
    refine wpAnyH_ready (rs := [10]) (by kernel_rfl) (by simp) ?_
    refine AllReadyH.cons (o := ⟨none, _, _, _, _, _⟩) rfl (fun K hK => ?_) AllReadyH.nil
    go_simp
    refine hK.out _ _ ?_ (fun hHeld => ?_)
    ·
     trivial
    clear hK K
    try simp only [Act.put, zA, zB, zC]
    refine wpAnyH_done (by kernel_rfl) ?_ _
    go_wp2
    go_roundw
    case rel => exact latch_next (m := m) h10 hR10.1 hG8 hR10.2 hrow8 hbs hs8 hneC hlat HY.out (by rw [HQ5.out]; omega) (by rw [HQ5.out]; omega) (by omega) (by omega)
    case measure => simp [intOf]; omega
   have hd0 : ((ls.length : Int) == 0) = false := by rw [beq_eq_false_iff_ne]; omega
   have hy : Gm.litB N gs.length y1 = true := lit_mk (by omega) (by omega) hp0 (by omega)
   have HY := Lib.hid hy
   generalize y1 = y at *
   go_upto_region 20 with fail
   clear hd hd0 hy h0
   refine wp_region_held_drew (S := fun _ => True) (by kernel_rfl) trivial (fun hHeld => ?_)
   refine zT 0 ⟨some 61, _, _, _, _, _⟩ ?_ rfl (by kernel_rfl) (fun _ _ _ h => h) (by rfl) hHeld ?_ ?_
   rotate_left
   ·
    intro w hSw
    (try dsimp only at hSw)
    first | (go_simp; done) | (go_simp; with_reducible rfl) | with_reducible rfl
   try simp only [Act.put, zA, zB, zC]
   refine zT 2 ⟨some 63, _, _, _, _, _⟩ ?_ rfl (by kernel_rfl) (fun _ _ _ h => h) (by rfl) hHeld ?_ ?_
   rotate_left
   ·
    intro w hSw
    (try dsimp only at hSw)
    first | (go_simp; done) | (go_simp; with_reducible rfl) | with_reducible rfl
   try simp only [Act.put, zA, zB, zC]
   refine zT 3 ⟨some 64, _, _, _, _, _⟩ ?_ rfl (by kernel_rfl) (fun _ _ _ h => h) (by rfl) hHeld ?_ ?_
   rotate_left
   ·
    intro w hSw
    (try dsimp only at hSw)
    first | (go_simp; done) | (go_simp; with_reducible rfl) | with_reducible rfl
   try simp only [Act.put, zA, zB, zC]
   refine wpAnyH_ready (rs := [1, 4]) (by kernel_rfl) (by simp) ?_
   refine AllReadyH.cons (o := ⟨some 62, _, _, _, _, _⟩) rfl (fun K hK => ?_) (AllReadyH.cons (o := ⟨some 65, _, _, _, _, _⟩) rfl (fun K hK => ?_) AllReadyH.nil)
   ·
    go_simp
    refine hK.out _ _ ?_ (fun hHeld => ?_)
    ·
     trivial
    clear hK K
    try simp only [Act.put, zA, zB, zC]
    refine wpAnyH_ready (rs := [4]) (by kernel_rfl) (by simp) ?_
    refine AllReadyH.cons (o := ⟨some 65, _, _, _, _, _⟩) rfl (fun K hK => ?_) AllReadyH.nil
    go_simp
    (refine (h6.call HU.out HM.out (by omega) 5 (by omega) (by omega)).mono ?_; rintro e w9 ⟨rfl, h7, hse⟩; obtain ⟨hrow7, hG7⟩ := HST6.out _ hse; have hsz7 := congrArg (fun W => W.heap.size) hse; simp only [heap_size_set] at hsz7; have hsz9 : w8.heap.size ≤ w9.heap.size := (by have h : w5.heap.size = w9.heap.size := hsz7; omega); obtain ⟨hr0, hr1⟩ := Cm.pick_lt zs (a + 1) 5 (by omega); generalize Cm.pickS zs (a + 1) 5 = p5 at *; have HQ5 : Hid (IntKind.i64.wrap (p5.tdiv 2) = p5 / 2) := (by unfold Hid; rw [IntKind.wrap_i64, Int.tdiv_eq_ediv_of_nonneg hr0]; omega); have c1 := h7.cb.cell 1; simp only [zD, zE, zF] at c1)
    refine hK.out _ _ ?_ (fun hHeld => ?_)
    ·
     trivial
    clear hK K
    try simp only [Act.put, zA, zB, zC]
    refine zT 5 ⟨some 66, _, _, _, _, _⟩ ?_ rfl (by kernel_rfl) (fun _ _ _ h => h) (by rfl) hHeld ?_ ?_
    rotate_left
    ·
     intro w hSw
     (try dsimp only at hSw)
     first | (go_simp; done) | (go_simp; with_reducible rfl) | with_reducible rfl
    try simp only [Act.put, zA, zB, zC]
    refine zT 6 ⟨some 67, _, _, _, _, _⟩ ?_ rfl (by kernel_rfl) (fun _ _ _ h => h) (by rfl) hHeld ?_ ?_
    rotate_left
    ·
     intro w hSw
     (try dsimp only at hSw)
     first | (go_simp; done) | (go_simp; with_reducible rfl) | with_reducible rfl
    try simp only [Act.put, zA, zB, zC]
    refine wpAnyH_ready (rs := [7]) (by kernel_rfl) (by simp) ?_
    refine AllReadyH.cons (o := ⟨some 68, _, _, _, _, _⟩) rfl (fun K hK => ?_) AllReadyH.nil
    go_simp
    (have h8 := h7.alloc (Obj.cells #[.int .i64 y, .int .i64 (IntKind.i64.wrap (p5.tdiv 2))] 49); have hbk := Blk.new w9 49 #[.int .i64 y, .int .i64 (IntKind.i64.wrap (p5.tdiv 2))]; have hrow8 := World.ownsRow.alloc hrow7 (Obj.cells #[.int .i64 y, .int .i64 (IntKind.i64.wrap (p5.tdiv 2))] 49); have hG8 := hG7.below (lowAlloc w9 (Obj.cells #[.int .i64 y, .int .i64 (IntKind.i64.wrap (p5.tdiv 2))] 49)) hsz9; have hs8 : w8.heap.size ≤ (w9.alloc (Obj.cells #[.int .i64 y, .int .i64 (IntKind.i64.wrap (p5.tdiv 2))] 49)).heap.size := (by simp; omega); generalize w9.alloc (Obj.cells #[.int .i64 y, .int .i64 (IntKind.i64.wrap (p5.tdiv 2))] 49) = V9 at *; have c1 := h8.cb.cell 1; simp only [zD, zE, zF] at c1)
    refine hK.out _ _ ?_ (fun hHeld => ?_)
    ·
     trivial
    clear hK K
    try simp only [Act.put, zA, zB, zC]
    refine wpAnyH_ready (rs := [8]) (by kernel_rfl) (by simp) ?_
    refine AllReadyH.cons (o := ⟨some 69, _, _, _, _, _⟩) rfl (fun K hK => ?_) AllReadyH.nil
    (rw [if_pos (by rfl)]; refine oper_app (.tmp 62) (.tmp 68) 24 rfl vL (.slice (some ⟨w9.heap.size, 0, none⟩) 1 1) rfl rfl (fun v' w' => w'.ownsRow w8.heap.size 49 2 v' (ls.length + 1) (flat ls ++ [.int .i64 y, .int .i64 (IntKind.i64.wrap (p5.tdiv 2))]) ∧ V9.grownBy w' vL.ownBlock) (fun ty => (by obtain ⟨v', w', r1, r2, r3, _⟩ := app_latch V9 w8.heap.size ty vL ls.length _ hrow8 w9.heap.size 1 y (IntKind.i64.wrap (p5.tdiv 2)) hbk (by omega) hs8; exact ⟨v', w', r1, r2, r3⟩)) ?_; intro v' w10 hR10; obtain ⟨AL, cL, rfl⟩ := row_slice hR10.1; have h10 := h8.grown hR10.2 (fun k e => Nat.le_trans hbs (row_base hrow8 k e)); have c1 := h10.cb.cell 1; have f1 := h10.cb.frozen 1; simp only [zD, zE, zF] at c1)
    refine hK.out _ _ ?_ (fun hHeld => ?_)
    ·
     trivial
    clear hK K
    try simp only [Act.put, zA, zB, zC]
    refine zT 9 ⟨some 70, _, _, _, _, _⟩ ?_ rfl (by kernel_rfl) (fun _ _ _ h => h) (by rfl) hHeld ?_ ?_
    rotate_left
    ·
     intro w hSw
     (try dsimp only at hSw)
     first | (go_simp; done) | (go_simp; with_reducible rfl) | with_reducible rfl
    try simp only [Act.put, zA, zB, zC]
    refine wpAnyH_ready (rs := [10]) (by kernel_rfl) (by simp) ?_
    refine AllReadyH.cons (o := ⟨none, _, _, _, _, _⟩) rfl (fun K hK => ?_) AllReadyH.nil
    go_simp
    refine hK.out _ _ ?_ (fun hHeld => ?_)
    ·
     trivial
    clear hK K
    try simp only [Act.put, zA, zB, zC]
    refine wpAnyH_done (by kernel_rfl) ?_ _
    go_wp2
    go_roundw
    case rel => exact latch_next (m := m) h10 hR10.1 hG8 hR10.2 hrow8 hbs hs8 hneC hlat HY.out (by rw [HQ5.out]; omega) (by rw [HQ5.out]; omega) (by omega) (by omega)
    case measure => simp [intOf]; omega
   go_simp
   (refine (h6.call HU.out HM.out (by omega) 5 (by omega) (by omega)).mono ?_; rintro e w9 ⟨rfl, h7, hse⟩; obtain ⟨hrow7, hG7⟩ := HST6.out _ hse; have hsz7 := congrArg (fun W => W.heap.size) hse; simp only [heap_size_set] at hsz7; have hsz9 : w8.heap.size ≤ w9.heap.size := (by have h : w5.heap.size = w9.heap.size := hsz7; omega); obtain ⟨hr0, hr1⟩ := Cm.pick_lt zs (a + 1) 5 (by omega); generalize Cm.pickS zs (a + 1) 5 = p5 at *; have HQ5 : Hid (IntKind.i64.wrap (p5.tdiv 2) = p5 / 2) := (by unfold Hid; rw [IntKind.wrap_i64, Int.tdiv_eq_ediv_of_nonneg hr0]; omega); have c1 := h7.cb.cell 1; simp only [zD, zE, zF] at c1)
   refine hK.out _ _ ?_ (fun hHeld => ?_)
   ·
    trivial
   clear hK K
   try simp only [Act.put, zA, zB, zC]
   refine zT 5 ⟨some 66, _, _, _, _, _⟩ ?_ rfl (by kernel_rfl) (fun _ _ _ h => h) (by rfl) hHeld ?_ ?_
   rotate_left
   ·
    intro w hSw
    (try dsimp only at hSw)
    first | (go_simp; done) | (go_simp; with_reducible rfl) | with_reducible rfl
   try simp only [Act.put, zA, zB, zC]
   refine zT 6 ⟨some 67, _, _, _, _, _⟩ ?_ rfl (by kernel_rfl) (fun _ _ _ h => h) (by rfl) hHeld ?_ ?_
   rotate_left
   ·
    intro w hSw
    (try dsimp only at hSw)
    first | (go_simp; done) | (go_simp; with_reducible rfl) | with_reducible rfl
   try simp only [Act.put, zA, zB, zC]
   refine wpAnyH_ready (rs := [1, 7]) (by kernel_rfl) (by simp) ?_
   refine AllReadyH.cons (o := ⟨some 62, _, _, _, _, _⟩) rfl (fun K hK => ?_) (AllReadyH.cons (o := ⟨some 68, _, _, _, _, _⟩) rfl (fun K hK => ?_) AllReadyH.nil)
   ·
    go_simp
    refine hK.out _ _ ?_ (fun hHeld => ?_)
    ·
     trivial
    clear hK K
    try simp only [Act.put, zA, zB, zC]
    refine wpAnyH_ready (rs := [7]) (by kernel_rfl) (by simp) ?_
    refine AllReadyH.cons (o := ⟨some 68, _, _, _, _, _⟩) rfl (fun K hK => ?_) AllReadyH.nil
    go_simp
    (have h8 := h7.alloc (Obj.cells #[.int .i64 y, .int .i64 (IntKind.i64.wrap (p5.tdiv 2))] 49); have hbk := Blk.new w9 49 #[.int .i64 y, .int .i64 (IntKind.i64.wrap (p5.tdiv 2))]; have hrow8 := World.ownsRow.alloc hrow7 (Obj.cells #[.int .i64 y, .int .i64 (IntKind.i64.wrap (p5.tdiv 2))] 49); have hG8 := hG7.below (lowAlloc w9 (Obj.cells #[.int .i64 y, .int .i64 (IntKind.i64.wrap (p5.tdiv 2))] 49)) hsz9; have hs8 : w8.heap.size ≤ (w9.alloc (Obj.cells #[.int .i64 y, .int .i64 (IntKind.i64.wrap (p5.tdiv 2))] 49)).heap.size := (by simp; omega); generalize w9.alloc (Obj.cells #[.int .i64 y, .int .i64 (IntKind.i64.wrap (p5.tdiv 2))] 49) = V9 at *; have c1 := h8.cb.cell 1; simp only [zD, zE, zF] at c1)
    refine hK.out _ _ ?_ (fun hHeld => ?_)
    ·
     trivial
    clear hK K
    try simp only [Act.put, zA, zB, zC]
    refine wpAnyH_ready (rs := [8]) (by kernel_rfl) (by simp) ?_
    refine AllReadyH.cons (o := ⟨some 69, _, _, _, _, _⟩) rfl (fun K hK => ?_) AllReadyH.nil
    (rw [if_pos (by rfl)]; refine oper_app (.tmp 62) (.tmp 68) 24 rfl vL (.slice (some ⟨w9.heap.size, 0, none⟩) 1 1) rfl rfl (fun v' w' => w'.ownsRow w8.heap.size 49 2 v' (ls.length + 1) (flat ls ++ [.int .i64 y, .int .i64 (IntKind.i64.wrap (p5.tdiv 2))]) ∧ V9.grownBy w' vL.ownBlock) (fun ty => (by obtain ⟨v', w', r1, r2, r3, _⟩ := app_latch V9 w8.heap.size ty vL ls.length _ hrow8 w9.heap.size 1 y (IntKind.i64.wrap (p5.tdiv 2)) hbk (by omega) hs8; exact ⟨v', w', r1, r2, r3⟩)) ?_; intro v' w10 hR10; obtain ⟨AL, cL, rfl⟩ := row_slice hR10.1; have h10 := h8.grown hR10.2 (fun k e => Nat.le_trans hbs (row_base hrow8 k e)); have c1 := h10.cb.cell 1; have f1 := h10.cb.frozen 1; simp only [zD, zE, zF] at c1)
    refine hK.out _ _ ?_ (fun hHeld => ?_)
    ·
     trivial
    clear hK K
    try simp only [Act.put, zA, zB, zC]
    refine zT 9 ⟨some 70, _, _, _, _, _⟩ ?_ rfl (by kernel_rfl) (fun _ _ _ h => h) (by rfl) hHeld ?_ ?_
    rotate_left
    ·
     intro w hSw
     (try dsimp only at hSw)
     first | (go_simp; done) | (go_simp; with_reducible rfl) | with_reducible rfl
    try simp only [Act.put, zA, zB, zC]
    refine wpAnyH_ready (rs := [10]) (by kernel_rfl) (by simp) ?_
    refine AllReadyH.cons (o := ⟨none, _, _, _, _, _⟩) rfl (fun K hK => ?_) AllReadyH.nil
    go_simp
    refine hK.out _ _ ?_ (fun hHeld => ?_)
    ·
     trivial
    clear hK K
    try simp only [Act.put, zA, zB, zC]
    refine wpAnyH_done (by kernel_rfl) ?_ _
    go_wp2
    go_roundw
    case rel => exact latch_next (m := m) h10 hR10.1 hG8 hR10.2 hrow8 hbs hs8 hneC hlat HY.out (by rw [HQ5.out]; omega) (by rw [HQ5.out]; omega) (by omega) (by omega)
    case measure => simp [intOf]; omega
   go_simp
   (have h8 := h7.alloc (Obj.cells #[.int .i64 y, .int .i64 (IntKind.i64.wrap (p5.tdiv 2))] 49); have hbk := Blk.new w9 49 #[.int .i64 y, .int .i64 (IntKind.i64.wrap (p5.tdiv 2))]; have hrow8 := World.ownsRow.alloc hrow7 (Obj.cells #[.int .i64 y, .int .i64 (IntKind.i64.wrap (p5.tdiv 2))] 49); have hG8 := hG7.below (lowAlloc w9 (Obj.cells #[.int .i64 y, .int .i64 (IntKind.i64.wrap (p5.tdiv 2))] 49)) hsz9; have hs8 : w8.heap.size ≤ (w9.alloc (Obj.cells #[.int .i64 y, .int .i64 (IntKind.i64.wrap (p5.tdiv 2))] 49)).heap.size := (by simp; omega); generalize w9.alloc (Obj.cells #[.int .i64 y, .int .i64 (IntKind.i64.wrap (p5.tdiv 2))] 49) = V9 at *; have c1 := h8.cb.cell 1; simp only [zD, zE, zF] at c1)
   refine hK.out _ _ ?_ (fun hHeld => ?_)
   ·
    trivial
   clear hK K
   try simp only [Act.put, zA, zB, zC]
   refine wpAnyH_ready (rs := [1]) (by kernel_rfl) (by simp) ?_
   refine AllReadyH.cons (o := ⟨some 62, _, _, _, _, _⟩) rfl (fun K hK => ?_) AllReadyH.nil
   go_simp
   refine hK.out _ _ ?_ (fun hHeld => ?_)
   ·
    trivial
   clear hK K
   try simp only [Act.put, zA, zB, zC]
   refine wpAnyH_ready (rs := [8]) (by kernel_rfl) (by simp) ?_
   refine AllReadyH.cons (o := ⟨some 69, _, _, _, _, _⟩) rfl (fun K hK => ?_) AllReadyH.nil
   (rw [if_pos (by rfl)]; refine oper_app (.tmp 62) (.tmp 68) 24 rfl vL (.slice (some ⟨w9.heap.size, 0, none⟩) 1 1) rfl rfl (fun v' w' => w'.ownsRow w8.heap.size 49 2 v' (ls.length + 1) (flat ls ++ [.int .i64 y, .int .i64 (IntKind.i64.wrap (p5.tdiv 2))]) ∧ V9.grownBy w' vL.ownBlock) (fun ty => (by obtain ⟨v', w', r1, r2, r3, _⟩ := app_latch V9 w8.heap.size ty vL ls.length _ hrow8 w9.heap.size 1 y (IntKind.i64.wrap (p5.tdiv 2)) hbk (by omega) hs8; exact ⟨v', w', r1, r2, r3⟩)) ?_; intro v' w10 hR10; obtain ⟨AL, cL, rfl⟩ := row_slice hR10.1; have h10 := h8.grown hR10.2 (fun k e => Nat.le_trans hbs (row_base hrow8 k e)); have c1 := h10.cb.cell 1; have f1 := h10.cb.frozen 1; simp only [zD, zE, zF] at c1)
   refine hK.out _ _ ?_ (fun hHeld => ?_)
   ·
    trivial
   clear hK K
   try simp only [Act.put, zA, zB, zC]
   refine zT 9 ⟨some 70, _, _, _, _, _⟩ ?_ rfl (by kernel_rfl) (fun _ _ _ h => h) (by rfl) hHeld ?_ ?_
   rotate_left
   ·
    intro w hSw
    (try dsimp only at hSw)
    first | (go_simp; done) | (go_simp; with_reducible rfl) | with_reducible rfl
   try simp only [Act.put, zA, zB, zC]
   refine wpAnyH_ready (rs := [10]) (by kernel_rfl) (by simp) ?_
   refine AllReadyH.cons (o := ⟨none, _, _, _, _, _⟩) rfl (fun K hK => ?_) AllReadyH.nil
   go_simp
   refine hK.out _ _ ?_ (fun hHeld => ?_)
   ·
    trivial
   clear hK K
   try simp only [Act.put, zA, zB, zC]
   refine wpAnyH_done (by kernel_rfl) ?_ _
   go_wp2
   go_roundw
   case rel => exact latch_next (m := m) h10 hR10.1 hG8 hR10.2 hrow8 hbs hs8 hneC hlat HY.out (by rw [HQ5.out]; omega) (by rw [HQ5.out]; omega) (by omega) (by omega)
   case measure => simp [intOf]; omega
  have hd : decide ((ls.length : Int) < (m : Int)) = false := decide_eq_false (by omega)
  have hlm2 : ls.length = m := by omega
  have HLM := Lib.hid hlm2
  have HLAT := Lib.hid hlat
  have hoff : Off w.heap.size A := fun ad e => by rcases hsep ad e with h | h <;> omega
  obtain ⟨B2, AL, cL, P1, hB12, hB, rfl, hP, hc1, hu1⟩ := fin_start hrow hG hoff hbs hB1
  have hbsB2 : w.heap.size + 4 ≤ B2 := by omega
  have HC1 := Lib.hid hc1
  have HU1 := Lib.hid hu1
  have hl3 : ls.length ≤ 3 := by omega
  have ha26 : a ≤ 26 := by omega
  have HA26 := Lib.hid ha26
  clear hc1 hu1 hrow hG hlat hlm2 hlm HST2 ha
  go_wp2_with fail
  clear hlt hd
  refine (h5.call HU.out HM.out (by omega) 3 (by omega) (by omega)).mono ?_
  rintro e w11 ⟨rfl, h6, hse⟩
  obtain ⟨hPn, hBn⟩ := pick_keep hP HC1.out hB (by have := h5.eA; omega) (by have := h5.eA; omega) hse
  clear hse hP hB h5
  have hP := hPn
  have hB := hBn
  clear hPn hBn
  obtain ⟨hkk0, hkk1⟩ := Cm.pick_lt zs a 3 (by omega)
  generalize Cm.pickS zs a 3 = kk at *
  obtain ⟨kn, rfl⟩ := Int.eq_ofNat_of_zero_le hkk0
  have hst : OutsRel w hL hR hA hC A0 c0 zs N gs.length 40 P1 B2 (.int .i64 n) (.slice AL ls.length cL) (.slice A gs.length cg) (.slice none 0 0) (.slice none 0 0) (.slice none 0 0) (.slice none 0 0) (.int .i64 (kn : Int)) w11 := ⟨kn, a + 1, [], (.slice none 0 0), rfl, (by have := HA26.out; omega), by simp; omega, World.ownsRow_nil w11 _ _ _, fun z hz => by simp at hz, hP, hB, h6⟩
  have HST3 := Lib.hid hst
  clear hst h6 hP hB
  go_wp2
  go_loopw [14] (fun i wr => OutsRel w hL hR hA hC A0 c0 zs N gs.length 40 P1 B2 (.int .i64 n) (.slice AL ls.length cL) (.slice A gs.length cg) (.slice none 0 0) (.slice none 0 0) (.slice none 0 0) (.slice none 0 0) i wr) (fun i _ => (intOf i).toNat)
  case atStart => exact HST3.out
  obtain ⟨j, a, os, v, rfl, haj, hosj, hrow, hlit, hP, hB, h6⟩ := hrel
  cases j with
  | succ j =>
   have hd : decide ((0 : Int) < ((j : Int) + 1)) = true := decide_eq_true (by omega)
   go_upto_region 24 with fail
   clear hd
   have HST6 : Hid (∀ W, wr.drew.setCell ⟨hA, 0, none⟩ (.int .i64 (((a : Nat) : Int) + 1)) = W → W.ownsRow B2 3 1 v os.length (iv os) ∧ P1 W ∧ B2 ≤ W.heap.size) := fun W e => ⟨e ▸ row_set (w := wr.drew) hrow (by have := h6.eA; simp; omega) _, pick_keep (W := wr.drew) (drew_keep hP HC1.out hB) HC1.out hB (by have := h6.eA; omega) (by have := h6.eA; omega) e⟩
   replace h6 := h6.drew
   have c3 := h6.cb.cell 3
   simp only [zD, zE, zF] at c3
   clear hrow hP
   refine wp_region_held_drew (S := fun _ => True) (by kernel_rfl) trivial (fun hHeld => ?_)
   refine zT 0 ⟨some 77, _, _, _, _, _⟩ ?_ rfl (by kernel_rfl) (fun _ _ _ h => h) (by rfl) hHeld ?_ ?_
   rotate_left
   ·
    intro w hSw
    (try dsimp only at hSw)
    first | (go_simp; done) | (go_simp; with_reducible rfl) | with_reducible rfl
   try simp only [Act.put, zA, zB, zC]
   refine zT 2 ⟨some 79, _, _, _, _, _⟩ ?_ rfl (by kernel_rfl) (fun _ _ _ h => h) (by rfl) hHeld ?_ ?_
   rotate_left
   ·
    intro w hSw
    (try dsimp only at hSw)
    first | (go_simp; done) | (go_simp; with_reducible rfl) | with_reducible rfl
   try simp only [Act.put, zA, zB, zC]
   refine zT 3 ⟨some 80, _, _, _, _, _⟩ ?_ rfl (by kernel_rfl) (fun _ _ _ h => h) (by rfl) hHeld ?_ ?_
   rotate_left
   ·
    intro w hSw
    (try dsimp only at hSw)
    first | (go_simp; done) | (go_simp; with_reducible rfl) | with_reducible rfl
   try simp only [Act.put, zA, zB, zC]
   refine wpAnyH_ready (rs := [1, 4]) (by kernel_rfl) (by simp) ?_
   refine AllReadyH.cons (o := ⟨some 78, _, _, _, _, _⟩) rfl (fun K hK => ?_) (AllReadyH.cons (o := ⟨some 81, _, _, _, _, _⟩) rfl (fun K hK => ?_) AllReadyH.nil)
   ·
    go_simp
    refine hK.out _ _ ?_ (fun hHeld => ?_)
    ·
     trivial
    clear hK K
    try simp only [Act.put, zA, zB, zC]
    refine wpAnyH_ready (rs := [4]) (by kernel_rfl) (by simp) ?_
    refine AllReadyH.cons (o := ⟨some 81, _, _, _, _, _⟩) rfl (fun K hK => ?_) AllReadyH.nil
    go_simp
    (refine (h6.call HU.out HM.out (by omega) (2 * ((N : Int) + 1 + (gs.length : Int))) (by omega) (by omega)).mono ?_; rintro e w9 ⟨rfl, h7, hse⟩; obtain ⟨hrow7, hP7, hB7⟩ := HST6.out _ hse; clear hse; obtain ⟨hy0, hy1⟩ := Cm.pick_lt zs a (2 * ((N : Int) + 1 + (gs.length : Int))) (by omega); generalize Cm.pickS zs a (2 * ((N : Int) + 1 + (gs.length : Int))) = y at *; have HY : Hid (Gm.litB N gs.length y = true) := lit_mk (by omega) (by omega) hy0 (by omega); have c3 := h7.cb.cell 3; simp only [zD, zE, zF] at c3)
    refine hK.out _ _ ?_ (fun hHeld => ?_)
    ·
     trivial
    clear hK K
    try simp only [Act.put, zA, zB, zC]
    refine wpAnyH_ready (rs := [5]) (by kernel_rfl) (by simp) ?_
    refine AllReadyH.cons (o := ⟨some 82, _, _, _, _, _⟩) rfl (fun K hK => ?_) AllReadyH.nil
    go_simp
    (have h8 := h7.alloc (Obj.cells #[.int .i64 y] 3); have hbk := Blk.new w9 3 #[.int .i64 y]; have hrow8 := World.ownsRow.alloc hrow7 (Obj.cells #[.int .i64 y] 3); obtain ⟨hP8, hB8⟩ := alloc_keep hP7 HC1.out hB7 (Obj.cells #[.int .i64 y] 3); generalize w9.alloc (Obj.cells #[.int .i64 y] 3) = V9 at *; have c3 := h8.cb.cell 3; simp only [zD, zE, zF] at c3)
    refine hK.out _ _ ?_ (fun hHeld => ?_)
    ·
     trivial
    clear hK K
    try simp only [Act.put, zA, zB, zC]
    refine wpAnyH_ready (rs := [6]) (by kernel_rfl) (by simp) ?_
    refine AllReadyH.cons (o := ⟨some 83, _, _, _, _, _⟩) rfl (fun K hK => ?_) AllReadyH.nil
    (rw [if_pos (by rfl)]; refine oper_app (.tmp 78) (.tmp 82) 26 rfl v (.slice (some ⟨w9.heap.size, 0, none⟩) 1 1) rfl rfl (fun v' w' => w'.ownsRow B2 3 1 v' (os.length + 1) (iv os ++ [.int .i64 y]) ∧ V9.grownBy w' v.ownBlock) (fun ty => (by obtain ⟨v', w', r1, r2, r3, _⟩ := app_int V9 B2 ty v os.length _ hrow8 w9.heap.size 1 y hbk (by omega) hB8; exact ⟨v', w', r1, r2, r3⟩)) ?_; intro v' w10 hR10; obtain ⟨AL', cL', rfl⟩ := row_slice hR10.1; have h10 := h8.grown hR10.2 (fun k e => Nat.le_trans hbsB2 (row_base hrow8 k e)); have c3 := h10.cb.cell 3; have f3 := h10.cb.frozen 3; simp only [zD, zE, zF] at c3)
    refine hK.out _ _ ?_ (fun hHeld => ?_)
    ·
     trivial
    clear hK K
    try simp only [Act.put, zA, zB, zC]
    refine zT 7 ⟨some 84, _, _, _, _, _⟩ ?_ rfl (by kernel_rfl) (fun _ _ _ h => h) (by rfl) hHeld ?_ ?_
    rotate_left
    ·
     intro w hSw
     (try dsimp only at hSw)
     first | (go_simp; done) | (go_simp; with_reducible rfl) | with_reducible rfl
    try simp only [Act.put, zA, zB, zC]
    refine wpAnyH_ready (rs := [8]) (by kernel_rfl) (by simp) ?_
    refine AllReadyH.cons (o := ⟨none, _, _, _, _, _⟩) rfl (fun K hK => ?_) AllReadyH.nil
    go_simp
    refine hK.out _ _ ?_ (fun hHeld => ?_)
    ·
     trivial
    clear hK K
    try simp only [Act.put, zA, zB, zC]
    refine wpAnyH_done (by kernel_rfl) ?_ _
    go_wp2
    go_roundw
    case rel => exact OutsRel.next h10 hR10.1 hP8 HC1.out hR10.2 hrow8 hbsB2 hB8 hlit HY.out (by omega) (by omega)
    case measure => simp [intOf]
   go_simp
   (refine (h6.call HU.out HM.out (by omega) (2 * ((N : Int) + 1 + (gs.length : Int))) (by omega) (by omega)).mono ?_; rintro e w9 ⟨rfl, h7, hse⟩; obtain ⟨hrow7, hP7, hB7⟩ := HST6.out _ hse; clear hse; obtain ⟨hy0, hy1⟩ := Cm.pick_lt zs a (2 * ((N : Int) + 1 + (gs.length : Int))) (by omega); generalize Cm.pickS zs a (2 * ((N : Int) + 1 + (gs.length : Int))) = y at *; have HY : Hid (Gm.litB N gs.length y = true) := lit_mk (by omega) (by omega) hy0 (by omega); have c3 := h7.cb.cell 3; simp only [zD, zE, zF] at c3)
   refine hK.out _ _ ?_ (fun hHeld => ?_)
   ·
    trivial
   clear hK K
   try simp only [Act.put, zA, zB, zC]
   refine wpAnyH_ready (rs := [1, 5]) (by kernel_rfl) (by simp) ?_
   refine AllReadyH.cons (o := ⟨some 78, _, _, _, _, _⟩) rfl (fun K hK => ?_) (AllReadyH.cons (o := ⟨some 82, _, _, _, _, _⟩) rfl (fun K hK => ?_) AllReadyH.nil)
   ·
    go_simp
    refine hK.out _ _ ?_ (fun hHeld => ?_)
    ·
     trivial
    clear hK K
    try simp only [Act.put, zA, zB, zC]
    refine wpAnyH_ready (rs := [5]) (by kernel_rfl) (by simp) ?_
    refine AllReadyH.cons (o := ⟨some 82, _, _, _, _, _⟩) rfl (fun K hK => ?_) AllReadyH.nil
    go_simp
    (have h8 := h7.alloc (Obj.cells #[.int .i64 y] 3); have hbk := Blk.new w9 3 #[.int .i64 y]; have hrow8 := World.ownsRow.alloc hrow7 (Obj.cells #[.int .i64 y] 3); obtain ⟨hP8, hB8⟩ := alloc_keep hP7 HC1.out hB7 (Obj.cells #[.int .i64 y] 3); generalize w9.alloc (Obj.cells #[.int .i64 y] 3) = V9 at *; have c3 := h8.cb.cell 3; simp only [zD, zE, zF] at c3)
    refine hK.out _ _ ?_ (fun hHeld => ?_)
    ·
     trivial
    clear hK K
    try simp only [Act.put, zA, zB, zC]
    refine wpAnyH_ready (rs := [6]) (by kernel_rfl) (by simp) ?_
    refine AllReadyH.cons (o := ⟨some 83, _, _, _, _, _⟩) rfl (fun K hK => ?_) AllReadyH.nil
    (rw [if_pos (by rfl)]; refine oper_app (.tmp 78) (.tmp 82) 26 rfl v (.slice (some ⟨w9.heap.size, 0, none⟩) 1 1) rfl rfl (fun v' w' => w'.ownsRow B2 3 1 v' (os.length + 1) (iv os ++ [.int .i64 y]) ∧ V9.grownBy w' v.ownBlock) (fun ty => (by obtain ⟨v', w', r1, r2, r3, _⟩ := app_int V9 B2 ty v os.length _ hrow8 w9.heap.size 1 y hbk (by omega) hB8; exact ⟨v', w', r1, r2, r3⟩)) ?_; intro v' w10 hR10; obtain ⟨AL', cL', rfl⟩ := row_slice hR10.1; have h10 := h8.grown hR10.2 (fun k e => Nat.le_trans hbsB2 (row_base hrow8 k e)); have c3 := h10.cb.cell 3; have f3 := h10.cb.frozen 3; simp only [zD, zE, zF] at c3)
    refine hK.out _ _ ?_ (fun hHeld => ?_)
    ·
     trivial
    clear hK K
    try simp only [Act.put, zA, zB, zC]
    refine zT 7 ⟨some 84, _, _, _, _, _⟩ ?_ rfl (by kernel_rfl) (fun _ _ _ h => h) (by rfl) hHeld ?_ ?_
    rotate_left
    ·
     intro w hSw
     (try dsimp only at hSw)
     first | (go_simp; done) | (go_simp; with_reducible rfl) | with_reducible rfl
    try simp only [Act.put, zA, zB, zC]
    refine wpAnyH_ready (rs := [8]) (by kernel_rfl) (by simp) ?_
    refine AllReadyH.cons (o := ⟨none, _, _, _, _, _⟩) rfl (fun K hK => ?_) AllReadyH.nil
    go_simp
    refine hK.out _ _ ?_ (fun hHeld => ?_)
    ·
     trivial
    clear hK K
    try simp only [Act.put, zA, zB, zC]
    refine wpAnyH_done (by kernel_rfl) ?_ _
    go_wp2
    go_roundw
    case rel => exact OutsRel.next h10 hR10.1 hP8 HC1.out hR10.2 hrow8 hbsB2 hB8 hlit HY.out (by omega) (by omega)
    case measure => simp [intOf]
   go_simp
   (have h8 := h7.alloc (Obj.cells #[.int .i64 y] 3); have hbk := Blk.new w9 3 #[.int .i64 y]; have hrow8 := World.ownsRow.alloc hrow7 (Obj.cells #[.int .i64 y] 3); obtain ⟨hP8, hB8⟩ := alloc_keep hP7 HC1.out hB7 (Obj.cells #[.int .i64 y] 3); generalize w9.alloc (Obj.cells #[.int .i64 y] 3) = V9 at *; have c3 := h8.cb.cell 3; simp only [zD, zE, zF] at c3)
   refine hK.out _ _ ?_ (fun hHeld => ?_)
   ·
    trivial
   clear hK K
   try simp only [Act.put, zA, zB, zC]
   refine wpAnyH_ready (rs := [1]) (by kernel_rfl) (by simp) ?_
   refine AllReadyH.cons (o := ⟨some 78, _, _, _, _, _⟩) rfl (fun K hK => ?_) AllReadyH.nil
   go_simp
   refine hK.out _ _ ?_ (fun hHeld => ?_)
   ·
    trivial
   clear hK K
   try simp only [Act.put, zA, zB, zC]
   refine wpAnyH_ready (rs := [6]) (by kernel_rfl) (by simp) ?_
   refine AllReadyH.cons (o := ⟨some 83, _, _, _, _, _⟩) rfl (fun K hK => ?_) AllReadyH.nil
   (rw [if_pos (by rfl)]; refine oper_app (.tmp 78) (.tmp 82) 26 rfl v (.slice (some ⟨w9.heap.size, 0, none⟩) 1 1) rfl rfl (fun v' w' => w'.ownsRow B2 3 1 v' (os.length + 1) (iv os ++ [.int .i64 y]) ∧ V9.grownBy w' v.ownBlock) (fun ty => (by obtain ⟨v', w', r1, r2, r3, _⟩ := app_int V9 B2 ty v os.length _ hrow8 w9.heap.size 1 y hbk (by omega) hB8; exact ⟨v', w', r1, r2, r3⟩)) ?_; intro v' w10 hR10; obtain ⟨AL', cL', rfl⟩ := row_slice hR10.1; have h10 := h8.grown hR10.2 (fun k e => Nat.le_trans hbsB2 (row_base hrow8 k e)); have c3 := h10.cb.cell 3; have f3 := h10.cb.frozen 3; simp only [zD, zE, zF] at c3)
   refine hK.out _ _ ?_ (fun hHeld => ?_)
   ·
    trivial
   clear hK K
   try simp only [Act.put, zA, zB, zC]
   refine zT 7 ⟨some 84, _, _, _, _, _⟩ ?_ rfl (by kernel_rfl) (fun _ _ _ h => h) (by rfl) hHeld ?_ ?_
   rotate_left
   ·
    intro w hSw
    (try dsimp only at hSw)
    first | (go_simp; done) | (go_simp; with_reducible rfl) | with_reducible rfl
   try simp only [Act.put, zA, zB, zC]
   refine wpAnyH_ready (rs := [8]) (by kernel_rfl) (by simp) ?_
   refine AllReadyH.cons (o := ⟨none, _, _, _, _, _⟩) rfl (fun K hK => ?_) AllReadyH.nil
   go_simp
   refine hK.out _ _ ?_ (fun hHeld => ?_)
   ·
    trivial
   clear hK K
   try simp only [Act.put, zA, zB, zC]
   refine wpAnyH_done (by kernel_rfl) ?_ _
   go_wp2
   go_roundw
   case rel => exact OutsRel.next h10 hR10.1 hP8 HC1.out hR10.2 hrow8 hbsB2 hB8 hlit HY.out (by omega) (by omega)
   case measure => simp [intOf]
  | zero =>
   obtain ⟨B3, AO, cO, P2, hB23, hBx, rfl, hPx, hc2, hu2⟩ := fin_next hP HC1.out hrow hbsB2 hB
   have hbsB3 : w.heap.size + 4 ≤ B3 := by omega
   have HC2 := Lib.hid hc2
   have HU2 := Lib.hid hu2
   have HLO := Lib.hid hlit
   clear hc2 hu2 hrow hlit hP hB HST3
   have hP := hPx
   have hB := hBx
   clear hPx hBx
   have hd : decide ((0 : Int) < 0) = false := rfl
   go_wp2_with fail
   refine (h6.call HU.out HM.out (by omega) 4 (by omega) (by omega)).mono ?_
   rintro e w12 ⟨rfl, h7, hse⟩
   obtain ⟨hPn, hBn⟩ := pick_keep hP HC2.out hB (by have := h6.eA; omega) (by have := h6.eA; omega) hse
   clear hse hP hB h6
   have hP := hPn
   have hB := hBn
   clear hPn hBn
   obtain ⟨hkb0, hkb1⟩ := Cm.pick_lt zs a 4 (by omega)
   generalize Cm.pickS zs a 4 = kb at *
   obtain ⟨bs, v, hbl, hrow, hlit, h6⟩ : ∃ (bs : List Int) (v : Value), bs.length ≤ 1 ∧ w12.ownsRow B3 3 1 v bs.length (iv bs) ∧ (∀ z ∈ bs, Gm.litB (N : Int) gs.length z = true) ∧ MB w w12 hL hR hA hC A0 c0 zs (a + 1) (.int .i64 n) (.slice AL ls.length cL) (.slice A gs.length cg) (.slice AO os.length cO) v (.slice none 0 0) (.slice none 0 0) (.slice none 0 0) := ⟨[], (.slice none 0 0), by simp, World.ownsRow_nil w12 _ _ _, fun z hz => by simp at hz, h7⟩
   clear h7
   go_upto_if 87 with fail
   go_cut [] from 16 (fun wx => BadsRel w hL hR hA hC A0 c0 zs N gs.length 45 P2 B3 (.int .i64 n) (.slice AL ls.length cL) (.slice A gs.length cg) (.slice AO os.length cO) (.slice none 0 0) (.slice none 0 0) (.slice none 0 0) (.int .i64 0) wx)
   case first =>
    by_cases hk : kb = 0
    ·
     have hkd : (kb == 0) = true := by simp [hk]
     go_upto_region 26 with fail
     clear hkd hk
     have HST6 : Hid (∀ W, w12.drew.setCell ⟨hA, 0, none⟩ (.int .i64 ((((a + 1) : Nat) : Int) + 1)) = W → W.ownsRow B3 3 1 v bs.length (iv bs) ∧ P2 W ∧ B3 ≤ W.heap.size) := fun W e => ⟨e ▸ row_set (w := w12.drew) hrow (by have := h6.eA; simp; omega) _, pick_keep (W := w12.drew) (drew_keep hP HC2.out hB) HC2.out hB (by have := h6.eA; omega) (by have := h6.eA; omega) e⟩
     replace h6 := h6.drew
     have c4 := h6.cb.cell 4
     simp only [zD, zE, zF] at c4
     clear hrow hP
     refine wp_region_held_drew (S := fun _ => True) (by kernel_rfl) trivial (fun hHeld => ?_)
     refine zT 0 ⟨some 88, _, _, _, _, _⟩ ?_ rfl (by kernel_rfl) (fun _ _ _ h => h) (by rfl) hHeld ?_ ?_
     rotate_left
     ·
      intro w hSw
      (try dsimp only at hSw)
      first | (go_simp; done) | (go_simp; with_reducible rfl) | with_reducible rfl
     try simp only [Act.put, zA, zB, zC]
     refine zT 2 ⟨some 90, _, _, _, _, _⟩ ?_ rfl (by kernel_rfl) (fun _ _ _ h => h) (by rfl) hHeld ?_ ?_
     rotate_left
     ·
      intro w hSw
      (try dsimp only at hSw)
      first | (go_simp; done) | (go_simp; with_reducible rfl) | with_reducible rfl
     try simp only [Act.put, zA, zB, zC]
     refine zT 3 ⟨some 91, _, _, _, _, _⟩ ?_ rfl (by kernel_rfl) (fun _ _ _ h => h) (by rfl) hHeld ?_ ?_
     rotate_left
     ·
      intro w hSw
      (try dsimp only at hSw)
      first | (go_simp; done) | (go_simp; with_reducible rfl) | with_reducible rfl
     try simp only [Act.put, zA, zB, zC]
     refine wpAnyH_ready (rs := [1, 4]) (by kernel_rfl) (by simp) ?_
     refine AllReadyH.cons (o := ⟨some 89, _, _, _, _, _⟩) rfl (fun K hK => ?_) (AllReadyH.cons (o := ⟨some 92, _, _, _, _, _⟩) rfl (fun K hK => ?_) AllReadyH.nil)
     ·
      go_simp
      refine hK.out _ _ ?_ (fun hHeld => ?_)
      ·
       trivial
      clear hK K
      try simp only [Act.put, zA, zB, zC]
      refine wpAnyH_ready (rs := [4]) (by kernel_rfl) (by simp) ?_
      refine AllReadyH.cons (o := ⟨some 92, _, _, _, _, _⟩) rfl (fun K hK => ?_) AllReadyH.nil
      go_simp
      (refine (h6.call HU.out HM.out (by omega) (2 * ((N : Int) + 1 + (gs.length : Int))) (by omega) (by omega)).mono ?_; rintro e w9 ⟨rfl, h7, hse⟩; obtain ⟨hrow7, hP7, hB7⟩ := HST6.out _ hse; clear hse; obtain ⟨hy0, hy1⟩ := Cm.pick_lt zs (a + 1) (2 * ((N : Int) + 1 + (gs.length : Int))) (by omega); generalize Cm.pickS zs (a + 1) (2 * ((N : Int) + 1 + (gs.length : Int))) = y at *; have HY : Hid (Gm.litB N gs.length y = true) := lit_mk (by omega) (by omega) hy0 (by omega); have c4 := h7.cb.cell 4; simp only [zD, zE, zF] at c4)
      refine hK.out _ _ ?_ (fun hHeld => ?_)
      ·
       trivial
      clear hK K
      try simp only [Act.put, zA, zB, zC]
      refine wpAnyH_ready (rs := [5]) (by kernel_rfl) (by simp) ?_
      refine AllReadyH.cons (o := ⟨some 93, _, _, _, _, _⟩) rfl (fun K hK => ?_) AllReadyH.nil
      go_simp
      (have h8 := h7.alloc (Obj.cells #[.int .i64 y] 3); have hbk := Blk.new w9 3 #[.int .i64 y]; have hrow8 := World.ownsRow.alloc hrow7 (Obj.cells #[.int .i64 y] 3); obtain ⟨hP8, hB8⟩ := alloc_keep hP7 HC2.out hB7 (Obj.cells #[.int .i64 y] 3); generalize w9.alloc (Obj.cells #[.int .i64 y] 3) = V9 at *; have c4 := h8.cb.cell 4; simp only [zD, zE, zF] at c4)
      refine hK.out _ _ ?_ (fun hHeld => ?_)
      ·
       trivial
      clear hK K
      try simp only [Act.put, zA, zB, zC]
      refine wpAnyH_ready (rs := [6]) (by kernel_rfl) (by simp) ?_
      refine AllReadyH.cons (o := ⟨some 94, _, _, _, _, _⟩) rfl (fun K hK => ?_) AllReadyH.nil
      (rw [if_pos (by rfl)]; refine oper_app (.tmp 89) (.tmp 93) 26 rfl v (.slice (some ⟨w9.heap.size, 0, none⟩) 1 1) rfl rfl (fun v' w' => w'.ownsRow B3 3 1 v' (bs.length + 1) (iv bs ++ [.int .i64 y]) ∧ V9.grownBy w' v.ownBlock) (fun ty => (by obtain ⟨v', w', r1, r2, r3, _⟩ := app_int V9 B3 ty v bs.length _ hrow8 w9.heap.size 1 y hbk (by omega) hB8; exact ⟨v', w', r1, r2, r3⟩)) ?_; intro v' w10 hR10; obtain ⟨AL', cL', rfl⟩ := row_slice hR10.1; have h10 := h8.grown hR10.2 (fun k e => Nat.le_trans hbsB3 (row_base hrow8 k e)); have c4 := h10.cb.cell 4; have f4 := h10.cb.frozen 4; simp only [zD, zE, zF] at c4)
      refine hK.out _ _ ?_ (fun hHeld => ?_)
      ·
       trivial
      clear hK K
      try simp only [Act.put, zA, zB, zC]
      refine zT 7 ⟨some 95, _, _, _, _, _⟩ ?_ rfl (by kernel_rfl) (fun _ _ _ h => h) (by rfl) hHeld ?_ ?_
      rotate_left
      ·
       intro w hSw
       (try dsimp only at hSw)
       first | (go_simp; done) | (go_simp; with_reducible rfl) | with_reducible rfl
      try simp only [Act.put, zA, zB, zC]
      refine wpAnyH_ready (rs := [8]) (by kernel_rfl) (by simp) ?_
      refine AllReadyH.cons (o := ⟨none, _, _, _, _, _⟩) rfl (fun K hK => ?_) AllReadyH.nil
      go_simp
      refine hK.out _ _ ?_ (fun hHeld => ?_)
      ·
       trivial
      clear hK K
      try simp only [Act.put, zA, zB, zC]
      refine wpAnyH_done (by kernel_rfl) ?_ _
      go_wp2_with fail
      go_meet
      exact BadsRel.next (j := 0) h10 hR10.1 hP8 HC2.out hR10.2 hrow8 hbsB3 hB8 hlit HY.out (by omega) (by omega)
     go_simp
     (refine (h6.call HU.out HM.out (by omega) (2 * ((N : Int) + 1 + (gs.length : Int))) (by omega) (by omega)).mono ?_; rintro e w9 ⟨rfl, h7, hse⟩; obtain ⟨hrow7, hP7, hB7⟩ := HST6.out _ hse; clear hse; obtain ⟨hy0, hy1⟩ := Cm.pick_lt zs (a + 1) (2 * ((N : Int) + 1 + (gs.length : Int))) (by omega); generalize Cm.pickS zs (a + 1) (2 * ((N : Int) + 1 + (gs.length : Int))) = y at *; have HY : Hid (Gm.litB N gs.length y = true) := lit_mk (by omega) (by omega) hy0 (by omega); have c4 := h7.cb.cell 4; simp only [zD, zE, zF] at c4)
     refine hK.out _ _ ?_ (fun hHeld => ?_)
     ·
      trivial
     clear hK K
     try simp only [Act.put, zA, zB, zC]
     refine wpAnyH_ready (rs := [1, 5]) (by kernel_rfl) (by simp) ?_
     refine AllReadyH.cons (o := ⟨some 89, _, _, _, _, _⟩) rfl (fun K hK => ?_) (AllReadyH.cons (o := ⟨some 93, _, _, _, _, _⟩) rfl (fun K hK => ?_) AllReadyH.nil)
     ·
      go_simp
      refine hK.out _ _ ?_ (fun hHeld => ?_)
      ·
       trivial
      clear hK K
      try simp only [Act.put, zA, zB, zC]
      refine wpAnyH_ready (rs := [5]) (by kernel_rfl) (by simp) ?_
      refine AllReadyH.cons (o := ⟨some 93, _, _, _, _, _⟩) rfl (fun K hK => ?_) AllReadyH.nil
      go_simp
      (have h8 := h7.alloc (Obj.cells #[.int .i64 y] 3); have hbk := Blk.new w9 3 #[.int .i64 y]; have hrow8 := World.ownsRow.alloc hrow7 (Obj.cells #[.int .i64 y] 3); obtain ⟨hP8, hB8⟩ := alloc_keep hP7 HC2.out hB7 (Obj.cells #[.int .i64 y] 3); generalize w9.alloc (Obj.cells #[.int .i64 y] 3) = V9 at *; have c4 := h8.cb.cell 4; simp only [zD, zE, zF] at c4)
      refine hK.out _ _ ?_ (fun hHeld => ?_)
      ·
       trivial
      clear hK K
      try simp only [Act.put, zA, zB, zC]
      refine wpAnyH_ready (rs := [6]) (by kernel_rfl) (by simp) ?_
      refine AllReadyH.cons (o := ⟨some 94, _, _, _, _, _⟩) rfl (fun K hK => ?_) AllReadyH.nil
      (rw [if_pos (by rfl)]; refine oper_app (.tmp 89) (.tmp 93) 26 rfl v (.slice (some ⟨w9.heap.size, 0, none⟩) 1 1) rfl rfl (fun v' w' => w'.ownsRow B3 3 1 v' (bs.length + 1) (iv bs ++ [.int .i64 y]) ∧ V9.grownBy w' v.ownBlock) (fun ty => (by obtain ⟨v', w', r1, r2, r3, _⟩ := app_int V9 B3 ty v bs.length _ hrow8 w9.heap.size 1 y hbk (by omega) hB8; exact ⟨v', w', r1, r2, r3⟩)) ?_; intro v' w10 hR10; obtain ⟨AL', cL', rfl⟩ := row_slice hR10.1; have h10 := h8.grown hR10.2 (fun k e => Nat.le_trans hbsB3 (row_base hrow8 k e)); have c4 := h10.cb.cell 4; have f4 := h10.cb.frozen 4; simp only [zD, zE, zF] at c4)
      refine hK.out _ _ ?_ (fun hHeld => ?_)
      ·
       trivial
      clear hK K
      try simp only [Act.put, zA, zB, zC]
      refine zT 7 ⟨some 95, _, _, _, _, _⟩ ?_ rfl (by kernel_rfl) (fun _ _ _ h => h) (by rfl) hHeld ?_ ?_
      rotate_left
      ·
       intro w hSw
       (try dsimp only at hSw)
       first | (go_simp; done) | (go_simp; with_reducible rfl) | with_reducible rfl
      try simp only [Act.put, zA, zB, zC]
      refine wpAnyH_ready (rs := [8]) (by kernel_rfl) (by simp) ?_
      refine AllReadyH.cons (o := ⟨none, _, _, _, _, _⟩) rfl (fun K hK => ?_) AllReadyH.nil
      go_simp
      refine hK.out _ _ ?_ (fun hHeld => ?_)
      ·
       trivial
      clear hK K
      try simp only [Act.put, zA, zB, zC]
      refine wpAnyH_done (by kernel_rfl) ?_ _
      go_wp2_with fail
      go_meet
      exact BadsRel.next (j := 0) h10 hR10.1 hP8 HC2.out hR10.2 hrow8 hbsB3 hB8 hlit HY.out (by omega) (by omega)
     go_simp
     (have h8 := h7.alloc (Obj.cells #[.int .i64 y] 3); have hbk := Blk.new w9 3 #[.int .i64 y]; have hrow8 := World.ownsRow.alloc hrow7 (Obj.cells #[.int .i64 y] 3); obtain ⟨hP8, hB8⟩ := alloc_keep hP7 HC2.out hB7 (Obj.cells #[.int .i64 y] 3); generalize w9.alloc (Obj.cells #[.int .i64 y] 3) = V9 at *; have c4 := h8.cb.cell 4; simp only [zD, zE, zF] at c4)
     refine hK.out _ _ ?_ (fun hHeld => ?_)
     ·
      trivial
     clear hK K
     try simp only [Act.put, zA, zB, zC]
     refine wpAnyH_ready (rs := [1]) (by kernel_rfl) (by simp) ?_
     refine AllReadyH.cons (o := ⟨some 89, _, _, _, _, _⟩) rfl (fun K hK => ?_) AllReadyH.nil
     go_simp
     refine hK.out _ _ ?_ (fun hHeld => ?_)
     ·
      trivial
     clear hK K
     try simp only [Act.put, zA, zB, zC]
     refine wpAnyH_ready (rs := [6]) (by kernel_rfl) (by simp) ?_
     refine AllReadyH.cons (o := ⟨some 94, _, _, _, _, _⟩) rfl (fun K hK => ?_) AllReadyH.nil
     (rw [if_pos (by rfl)]; refine oper_app (.tmp 89) (.tmp 93) 26 rfl v (.slice (some ⟨w9.heap.size, 0, none⟩) 1 1) rfl rfl (fun v' w' => w'.ownsRow B3 3 1 v' (bs.length + 1) (iv bs ++ [.int .i64 y]) ∧ V9.grownBy w' v.ownBlock) (fun ty => (by obtain ⟨v', w', r1, r2, r3, _⟩ := app_int V9 B3 ty v bs.length _ hrow8 w9.heap.size 1 y hbk (by omega) hB8; exact ⟨v', w', r1, r2, r3⟩)) ?_; intro v' w10 hR10; obtain ⟨AL', cL', rfl⟩ := row_slice hR10.1; have h10 := h8.grown hR10.2 (fun k e => Nat.le_trans hbsB3 (row_base hrow8 k e)); have c4 := h10.cb.cell 4; have f4 := h10.cb.frozen 4; simp only [zD, zE, zF] at c4)
     refine hK.out _ _ ?_ (fun hHeld => ?_)
     ·
      trivial
     clear hK K
     try simp only [Act.put, zA, zB, zC]
     refine zT 7 ⟨some 95, _, _, _, _, _⟩ ?_ rfl (by kernel_rfl) (fun _ _ _ h => h) (by rfl) hHeld ?_ ?_
     rotate_left
     ·
      intro w hSw
      (try dsimp only at hSw)
      first | (go_simp; done) | (go_simp; with_reducible rfl) | with_reducible rfl
     try simp only [Act.put, zA, zB, zC]
     refine wpAnyH_ready (rs := [8]) (by kernel_rfl) (by simp) ?_
     refine AllReadyH.cons (o := ⟨none, _, _, _, _, _⟩) rfl (fun K hK => ?_) AllReadyH.nil
     go_simp
     refine hK.out _ _ ?_ (fun hHeld => ?_)
     ·
      trivial
     clear hK K
     try simp only [Act.put, zA, zB, zC]
     refine wpAnyH_done (by kernel_rfl) ?_ _
     go_wp2_with fail
     go_meet
     exact BadsRel.next (j := 0) h10 hR10.1 hP8 HC2.out hR10.2 hrow8 hbsB3 hB8 hlit HY.out (by omega) (by omega)
    have hkd : (kb == 0) = false := by simp [hk]
    go_wp2_with fail
    go_meet
    exact ⟨0, a + 1, bs, v, rfl, by omega, by omega, hrow, hlit, hP, hB, h6⟩
   obtain ⟨j, a, bs, v, -, haj, hosj, hrow, hlit, hP, hB, h6⟩ := hcut
   have hbl2 : bs.length ≤ 3 := by omega
   obtain ⟨B4, AB, cB, P3, hB3B4, hBx, rfl, hPx, hcx, hux⟩ := fin_next hP HC2.out hrow hbsB3 hB
   have hbsB4 : w.heap.size + 4 ≤ B4 := by omega
   have HC3 := Lib.hid hcx
   have HU3 := Lib.hid hux
   have HLB := Lib.hid hlit
   clear hcx hux hrow hlit hP hB
   have hP := hPx
   have hB := hBx
   clear hPx hBx
   go_wp2_with fail
   refine (h6.call HU.out HM.out (by omega) 3 (by omega) (by omega)).mono ?_
   rintro e w13 ⟨rfl, h7, hse⟩
   obtain ⟨hPn, hBn⟩ := pick_keep hP HC3.out hB (by have := h6.eA; omega) (by have := h6.eA; omega) hse
   clear hse hP hB h6
   have hP := hPn
   have hB := hBn
   clear hPn hBn
   obtain ⟨hkc0, hkc1⟩ := Cm.pick_lt zs a 3 (by omega)
   generalize Cm.pickS zs a 3 = kc at *
   obtain ⟨cs2, v, hbl, hrow, hlit, h6⟩ : ∃ (cs2 : List Int) (v : Value), cs2.length ≤ 1 ∧ w13.ownsRow B4 3 1 v cs2.length (iv cs2) ∧ (∀ z ∈ cs2, Gm.litB (N : Int) gs.length z = true) ∧ MB w w13 hL hR hA hC A0 c0 zs (a + 1) (.int .i64 n) (.slice AL ls.length cL) (.slice A gs.length cg) (.slice AO os.length cO) (.slice AB bs.length cB) v (.slice none 0 0) (.slice none 0 0) := ⟨[], (.slice none 0 0), by simp, World.ownsRow_nil w13 _ _ _, fun z hz => by simp at hz, h7⟩
   clear h7
   go_upto_if 98 with fail
   go_cut [] from 16 (fun wx => ConsRel w hL hR hA hC A0 c0 zs N gs.length 50 P3 B4 (.int .i64 n) (.slice AL ls.length cL) (.slice A gs.length cg) (.slice AO os.length cO) (.slice AB bs.length cB) (.slice none 0 0) (.slice none 0 0) (.int .i64 0) wx)
   case first =>
    by_cases hk : kc = 0
    ·
     have hkd : (kc == 0) = true := by simp [hk]
     go_upto_region 28 with fail
     clear hkd hk
     have HST6 : Hid (∀ W, w13.drew.setCell ⟨hA, 0, none⟩ (.int .i64 ((((a + 1) : Nat) : Int) + 1)) = W → W.ownsRow B4 3 1 v cs2.length (iv cs2) ∧ P3 W ∧ B4 ≤ W.heap.size) := fun W e => ⟨e ▸ row_set (w := w13.drew) hrow (by have := h6.eA; simp; omega) _, pick_keep (W := w13.drew) (drew_keep hP HC3.out hB) HC3.out hB (by have := h6.eA; omega) (by have := h6.eA; omega) e⟩
     replace h6 := h6.drew
     have c5 := h6.cb.cell 5
     simp only [zD, zE, zF] at c5
     clear hrow hP
     refine wp_region_held_drew (S := fun _ => True) (by kernel_rfl) trivial (fun hHeld => ?_)
     refine zT 0 ⟨some 99, _, _, _, _, _⟩ ?_ rfl (by kernel_rfl) (fun _ _ _ h => h) (by rfl) hHeld ?_ ?_
     rotate_left
     ·
      intro w hSw
      (try dsimp only at hSw)
      first | (go_simp; done) | (go_simp; with_reducible rfl) | with_reducible rfl
     try simp only [Act.put, zA, zB, zC]
     refine zT 2 ⟨some 101, _, _, _, _, _⟩ ?_ rfl (by kernel_rfl) (fun _ _ _ h => h) (by rfl) hHeld ?_ ?_
     rotate_left
     ·
      intro w hSw
      (try dsimp only at hSw)
      first | (go_simp; done) | (go_simp; with_reducible rfl) | with_reducible rfl
     try simp only [Act.put, zA, zB, zC]
     refine zT 3 ⟨some 102, _, _, _, _, _⟩ ?_ rfl (by kernel_rfl) (fun _ _ _ h => h) (by rfl) hHeld ?_ ?_
     rotate_left
     ·
      intro w hSw
      (try dsimp only at hSw)
      first | (go_simp; done) | (go_simp; with_reducible rfl) | with_reducible rfl
     try simp only [Act.put, zA, zB, zC]
     refine wpAnyH_ready (rs := [1, 4]) (by kernel_rfl) (by simp) ?_
     refine AllReadyH.cons (o := ⟨some 100, _, _, _, _, _⟩) rfl (fun K hK => ?_) (AllReadyH.cons (o := ⟨some 103, _, _, _, _, _⟩) rfl (fun K hK => ?_) AllReadyH.nil)
     ·
      go_simp
      refine hK.out _ _ ?_ (fun hHeld => ?_)
      ·
       trivial
      clear hK K
      try simp only [Act.put, zA, zB, zC]
      refine wpAnyH_ready (rs := [4]) (by kernel_rfl) (by simp) ?_
      refine AllReadyH.cons (o := ⟨some 103, _, _, _, _, _⟩) rfl (fun K hK => ?_) AllReadyH.nil
      go_simp
      (refine (h6.call HU.out HM.out (by omega) (2 * ((N : Int) + 1 + (gs.length : Int))) (by omega) (by omega)).mono ?_; rintro e w9 ⟨rfl, h7, hse⟩; obtain ⟨hrow7, hP7, hB7⟩ := HST6.out _ hse; clear hse; obtain ⟨hy0, hy1⟩ := Cm.pick_lt zs (a + 1) (2 * ((N : Int) + 1 + (gs.length : Int))) (by omega); generalize Cm.pickS zs (a + 1) (2 * ((N : Int) + 1 + (gs.length : Int))) = y at *; have HY : Hid (Gm.litB N gs.length y = true) := lit_mk (by omega) (by omega) hy0 (by omega); have c5 := h7.cb.cell 5; simp only [zD, zE, zF] at c5)
      refine hK.out _ _ ?_ (fun hHeld => ?_)
      ·
       trivial
      clear hK K
      try simp only [Act.put, zA, zB, zC]
      refine wpAnyH_ready (rs := [5]) (by kernel_rfl) (by simp) ?_
      refine AllReadyH.cons (o := ⟨some 104, _, _, _, _, _⟩) rfl (fun K hK => ?_) AllReadyH.nil
      go_simp
      (have h8 := h7.alloc (Obj.cells #[.int .i64 y] 3); have hbk := Blk.new w9 3 #[.int .i64 y]; have hrow8 := World.ownsRow.alloc hrow7 (Obj.cells #[.int .i64 y] 3); obtain ⟨hP8, hB8⟩ := alloc_keep hP7 HC3.out hB7 (Obj.cells #[.int .i64 y] 3); generalize w9.alloc (Obj.cells #[.int .i64 y] 3) = V9 at *; have c5 := h8.cb.cell 5; simp only [zD, zE, zF] at c5)
      refine hK.out _ _ ?_ (fun hHeld => ?_)
      ·
       trivial
      clear hK K
      try simp only [Act.put, zA, zB, zC]
      refine wpAnyH_ready (rs := [6]) (by kernel_rfl) (by simp) ?_
      refine AllReadyH.cons (o := ⟨some 105, _, _, _, _, _⟩) rfl (fun K hK => ?_) AllReadyH.nil
      (rw [if_pos (by rfl)]; refine oper_app (.tmp 100) (.tmp 104) 26 rfl v (.slice (some ⟨w9.heap.size, 0, none⟩) 1 1) rfl rfl (fun v' w' => w'.ownsRow B4 3 1 v' (cs2.length + 1) (iv cs2 ++ [.int .i64 y]) ∧ V9.grownBy w' v.ownBlock) (fun ty => (by obtain ⟨v', w', r1, r2, r3, _⟩ := app_int V9 B4 ty v cs2.length _ hrow8 w9.heap.size 1 y hbk (by omega) hB8; exact ⟨v', w', r1, r2, r3⟩)) ?_; intro v' w10 hR10; obtain ⟨AL', cL', rfl⟩ := row_slice hR10.1; have h10 := h8.grown hR10.2 (fun k e => Nat.le_trans hbsB4 (row_base hrow8 k e)); have c5 := h10.cb.cell 5; have f5 := h10.cb.frozen 5; simp only [zD, zE, zF] at c5)
      refine hK.out _ _ ?_ (fun hHeld => ?_)
      ·
       trivial
      clear hK K
      try simp only [Act.put, zA, zB, zC]
      refine zT 7 ⟨some 106, _, _, _, _, _⟩ ?_ rfl (by kernel_rfl) (fun _ _ _ h => h) (by rfl) hHeld ?_ ?_
      rotate_left
      ·
       intro w hSw
       (try dsimp only at hSw)
       first | (go_simp; done) | (go_simp; with_reducible rfl) | with_reducible rfl
      try simp only [Act.put, zA, zB, zC]
      refine wpAnyH_ready (rs := [8]) (by kernel_rfl) (by simp) ?_
      refine AllReadyH.cons (o := ⟨none, _, _, _, _, _⟩) rfl (fun K hK => ?_) AllReadyH.nil
      go_simp
      refine hK.out _ _ ?_ (fun hHeld => ?_)
      ·
       trivial
      clear hK K
      try simp only [Act.put, zA, zB, zC]
      refine wpAnyH_done (by kernel_rfl) ?_ _
      go_wp2_with fail
      go_meet
      exact ConsRel.next (j := 0) h10 hR10.1 hP8 HC3.out hR10.2 hrow8 hbsB4 hB8 hlit HY.out (by omega) (by omega)
     go_simp
     (refine (h6.call HU.out HM.out (by omega) (2 * ((N : Int) + 1 + (gs.length : Int))) (by omega) (by omega)).mono ?_; rintro e w9 ⟨rfl, h7, hse⟩; obtain ⟨hrow7, hP7, hB7⟩ := HST6.out _ hse; clear hse; obtain ⟨hy0, hy1⟩ := Cm.pick_lt zs (a + 1) (2 * ((N : Int) + 1 + (gs.length : Int))) (by omega); generalize Cm.pickS zs (a + 1) (2 * ((N : Int) + 1 + (gs.length : Int))) = y at *; have HY : Hid (Gm.litB N gs.length y = true) := lit_mk (by omega) (by omega) hy0 (by omega); have c5 := h7.cb.cell 5; simp only [zD, zE, zF] at c5)
     refine hK.out _ _ ?_ (fun hHeld => ?_)
     ·
      trivial
     clear hK K
     try simp only [Act.put, zA, zB, zC]
     refine wpAnyH_ready (rs := [1, 5]) (by kernel_rfl) (by simp) ?_
     refine AllReadyH.cons (o := ⟨some 100, _, _, _, _, _⟩) rfl (fun K hK => ?_) (AllReadyH.cons (o := ⟨some 104, _, _, _, _, _⟩) rfl (fun K hK => ?_) AllReadyH.nil)
     ·
      go_simp
      refine hK.out _ _ ?_ (fun hHeld => ?_)
      ·
       trivial
      clear hK K
      try simp only [Act.put, zA, zB, zC]
      refine wpAnyH_ready (rs := [5]) (by kernel_rfl) (by simp) ?_
      refine AllReadyH.cons (o := ⟨some 104, _, _, _, _, _⟩) rfl (fun K hK => ?_) AllReadyH.nil
      go_simp
      (have h8 := h7.alloc (Obj.cells #[.int .i64 y] 3); have hbk := Blk.new w9 3 #[.int .i64 y]; have hrow8 := World.ownsRow.alloc hrow7 (Obj.cells #[.int .i64 y] 3); obtain ⟨hP8, hB8⟩ := alloc_keep hP7 HC3.out hB7 (Obj.cells #[.int .i64 y] 3); generalize w9.alloc (Obj.cells #[.int .i64 y] 3) = V9 at *; have c5 := h8.cb.cell 5; simp only [zD, zE, zF] at c5)
      refine hK.out _ _ ?_ (fun hHeld => ?_)
      ·
       trivial
      clear hK K
      try simp only [Act.put, zA, zB, zC]
      refine wpAnyH_ready (rs := [6]) (by kernel_rfl) (by simp) ?_
      refine AllReadyH.cons (o := ⟨some 105, _, _, _, _, _⟩) rfl (fun K hK => ?_) AllReadyH.nil
      (rw [if_pos (by rfl)]; refine oper_app (.tmp 100) (.tmp 104) 26 rfl v (.slice (some ⟨w9.heap.size, 0, none⟩) 1 1) rfl rfl (fun v' w' => w'.ownsRow B4 3 1 v' (cs2.length + 1) (iv cs2 ++ [.int .i64 y]) ∧ V9.grownBy w' v.ownBlock) (fun ty => (by obtain ⟨v', w', r1, r2, r3, _⟩ := app_int V9 B4 ty v cs2.length _ hrow8 w9.heap.size 1 y hbk (by omega) hB8; exact ⟨v', w', r1, r2, r3⟩)) ?_; intro v' w10 hR10; obtain ⟨AL', cL', rfl⟩ := row_slice hR10.1; have h10 := h8.grown hR10.2 (fun k e => Nat.le_trans hbsB4 (row_base hrow8 k e)); have c5 := h10.cb.cell 5; have f5 := h10.cb.frozen 5; simp only [zD, zE, zF] at c5)
      refine hK.out _ _ ?_ (fun hHeld => ?_)
      ·
       trivial
      clear hK K
      try simp only [Act.put, zA, zB, zC]
      refine zT 7 ⟨some 106, _, _, _, _, _⟩ ?_ rfl (by kernel_rfl) (fun _ _ _ h => h) (by rfl) hHeld ?_ ?_
      rotate_left
      ·
       intro w hSw
       (try dsimp only at hSw)
       first | (go_simp; done) | (go_simp; with_reducible rfl) | with_reducible rfl
      try simp only [Act.put, zA, zB, zC]
      refine wpAnyH_ready (rs := [8]) (by kernel_rfl) (by simp) ?_
      refine AllReadyH.cons (o := ⟨none, _, _, _, _, _⟩) rfl (fun K hK => ?_) AllReadyH.nil
      go_simp
      refine hK.out _ _ ?_ (fun hHeld => ?_)
      ·
       trivial
      clear hK K
      try simp only [Act.put, zA, zB, zC]
      refine wpAnyH_done (by kernel_rfl) ?_ _
      go_wp2_with fail
      go_meet
      exact ConsRel.next (j := 0) h10 hR10.1 hP8 HC3.out hR10.2 hrow8 hbsB4 hB8 hlit HY.out (by omega) (by omega)
     go_simp
     (have h8 := h7.alloc (Obj.cells #[.int .i64 y] 3); have hbk := Blk.new w9 3 #[.int .i64 y]; have hrow8 := World.ownsRow.alloc hrow7 (Obj.cells #[.int .i64 y] 3); obtain ⟨hP8, hB8⟩ := alloc_keep hP7 HC3.out hB7 (Obj.cells #[.int .i64 y] 3); generalize w9.alloc (Obj.cells #[.int .i64 y] 3) = V9 at *; have c5 := h8.cb.cell 5; simp only [zD, zE, zF] at c5)
     refine hK.out _ _ ?_ (fun hHeld => ?_)
     ·
      trivial
     clear hK K
     try simp only [Act.put, zA, zB, zC]
     refine wpAnyH_ready (rs := [1]) (by kernel_rfl) (by simp) ?_
     refine AllReadyH.cons (o := ⟨some 100, _, _, _, _, _⟩) rfl (fun K hK => ?_) AllReadyH.nil
     go_simp
     refine hK.out _ _ ?_ (fun hHeld => ?_)
     ·
      trivial
     clear hK K
     try simp only [Act.put, zA, zB, zC]
     refine wpAnyH_ready (rs := [6]) (by kernel_rfl) (by simp) ?_
     refine AllReadyH.cons (o := ⟨some 105, _, _, _, _, _⟩) rfl (fun K hK => ?_) AllReadyH.nil
     (rw [if_pos (by rfl)]; refine oper_app (.tmp 100) (.tmp 104) 26 rfl v (.slice (some ⟨w9.heap.size, 0, none⟩) 1 1) rfl rfl (fun v' w' => w'.ownsRow B4 3 1 v' (cs2.length + 1) (iv cs2 ++ [.int .i64 y]) ∧ V9.grownBy w' v.ownBlock) (fun ty => (by obtain ⟨v', w', r1, r2, r3, _⟩ := app_int V9 B4 ty v cs2.length _ hrow8 w9.heap.size 1 y hbk (by omega) hB8; exact ⟨v', w', r1, r2, r3⟩)) ?_; intro v' w10 hR10; obtain ⟨AL', cL', rfl⟩ := row_slice hR10.1; have h10 := h8.grown hR10.2 (fun k e => Nat.le_trans hbsB4 (row_base hrow8 k e)); have c5 := h10.cb.cell 5; have f5 := h10.cb.frozen 5; simp only [zD, zE, zF] at c5)
     refine hK.out _ _ ?_ (fun hHeld => ?_)
     ·
      trivial
     clear hK K
     try simp only [Act.put, zA, zB, zC]
     refine zT 7 ⟨some 106, _, _, _, _, _⟩ ?_ rfl (by kernel_rfl) (fun _ _ _ h => h) (by rfl) hHeld ?_ ?_
     rotate_left
     ·
      intro w hSw
      (try dsimp only at hSw)
      first | (go_simp; done) | (go_simp; with_reducible rfl) | with_reducible rfl
     try simp only [Act.put, zA, zB, zC]
     refine wpAnyH_ready (rs := [8]) (by kernel_rfl) (by simp) ?_
     refine AllReadyH.cons (o := ⟨none, _, _, _, _, _⟩) rfl (fun K hK => ?_) AllReadyH.nil
     go_simp
     refine hK.out _ _ ?_ (fun hHeld => ?_)
     ·
      trivial
     clear hK K
     try simp only [Act.put, zA, zB, zC]
     refine wpAnyH_done (by kernel_rfl) ?_ _
     go_wp2_with fail
     go_meet
     exact ConsRel.next (j := 0) h10 hR10.1 hP8 HC3.out hR10.2 hrow8 hbsB4 hB8 hlit HY.out (by omega) (by omega)
    have hkd : (kc == 0) = false := by simp [hk]
    go_wp2_with fail
    go_meet
    exact ⟨0, a + 1, cs2, v, rfl, by omega, by omega, hrow, hlit, hP, hB, h6⟩
   obtain ⟨j, a, cs2, v, -, haj, hosj, hrow, hlit, hP, hB, h6⟩ := hcut
   have hcl2 : cs2.length ≤ 3 := by omega
   obtain ⟨B5, AC, cC, P4, hB4B5, hBx, rfl, hPx, hcx, hux⟩ := fin_next hP HC3.out hrow hbsB4 hB
   have hbsB5 : w.heap.size + 4 ≤ B5 := by omega
   have HC4 := Lib.hid hcx
   have HU4 := Lib.hid hux
   have HLC := Lib.hid hlit
   clear hcx hux hrow hlit hP hB
   have hP := hPx
   have hB := hBx
   clear hPx hBx
   go_step
   go_step
   go_cut [15] from 16 (fun s15 wx => FairRel w hL hR hA hC A0 c0 zs N gs.length 55 P4 B5 (.int .i64 n) (.slice AL ls.length cL) (.slice A gs.length cg) (.slice AO os.length cO) (.slice AB bs.length cB) (.slice AC cs2.length cC) (.slice none 0 0) (.int .i64 0) wx)
   case first =>
    go_wp2_with fail
    refine (h6.call HU.out HM.out (by omega) 4 (by omega) (by omega)).mono ?_
    rintro e w14 ⟨rfl, h7, hse⟩
    obtain ⟨hPn, hBn⟩ := pick_keep hP HC4.out hB (by have := h6.eA; omega) (by have := h6.eA; omega) hse
    clear hse hP hB h6
    have hP := hPn
    have hB := hBn
    clear hPn hBn
    obtain ⟨hkf0, hkf1⟩ := Cm.pick_lt zs a 4 (by omega)
    generalize Cm.pickS zs a 4 = kf at *
    obtain ⟨kg, hkg⟩ : ∃ kg : Nat, kf / 2 = (kg : Int) := ⟨(kf / 2).toNat, by omega⟩
    have hkg1 : kg ≤ 1 := by omega
    have hdv : IntKind.i64.wrap (kf.tdiv 2) = (kg : Int) := by rw [IntKind.wrap_i64, Int.tdiv_eq_ediv_of_nonneg hkf0]; omega
    have hst : FairRel w hL hR hA hC A0 c0 zs N gs.length 55 P4 B5 (.int .i64 n) (.slice AL ls.length cL) (.slice A gs.length cg) (.slice AO os.length cO) (.slice AB bs.length cB) (.slice AC cs2.length cC) (.slice none 0 0) (.int .i64 (kg : Int)) w14 := ⟨kg, a + 1, [], (.slice none 0 0), rfl, by omega, by simp; omega, World.ownsRow_nil w14 _ _ _, fun z hz => by simp at hz, hP, hB, h7⟩
    have HST5 := Lib.hid hst
    clear hst h7 hP hB
    go_wp2
    go_loopw [15] (fun i wr => FairRel w hL hR hA hC A0 c0 zs N gs.length 55 P4 B5 (.int .i64 n) (.slice AL ls.length cL) (.slice A gs.length cg) (.slice AO os.length cO) (.slice AB bs.length cB) (.slice AC cs2.length cC) (.slice none 0 0) i wr) (fun i _ => (intOf i).toNat)
    case atStart => exact HST5.out
    have hrel0 := hrel
    obtain ⟨j, a, fs, v, rfl, haj, hosj, hrow, hlit, hP, hB, h6⟩ := hrel
    cases j with
    | succ j =>
     clear hrel0
     have hd : decide ((0 : Int) < ((j : Int) + 1)) = true := decide_eq_true (by omega)
     go_upto_region 32 with fail
     clear hd
     have HST6 : Hid (∀ W, wr.drew.setCell ⟨hA, 0, none⟩ (.int .i64 (((a : Nat) : Int) + 1)) = W → W.ownsRow B5 3 1 v fs.length (iv fs) ∧ P4 W ∧ B5 ≤ W.heap.size) := fun W e => ⟨e ▸ row_set (w := wr.drew) hrow (by have := h6.eA; simp; omega) _, pick_keep (W := wr.drew) (drew_keep hP HC4.out hB) HC4.out hB (by have := h6.eA; omega) (by have := h6.eA; omega) e⟩
     replace h6 := h6.drew
     have c6 := h6.cb.cell 6
     simp only [zD, zE, zF] at c6
     clear hrow hP
     refine wp_region_held_drew (S := fun _ => True) (by kernel_rfl) trivial (fun hHeld => ?_)
     refine zT 0 ⟨some 114, _, _, _, _, _⟩ ?_ rfl (by kernel_rfl) (fun _ _ _ h => h) (by rfl) hHeld ?_ ?_
     rotate_left
     ·
      intro w hSw
      (try dsimp only at hSw)
      first | (go_simp; done) | (go_simp; with_reducible rfl) | with_reducible rfl
     try simp only [Act.put, zA, zB, zC]
     refine zT 2 ⟨some 116, _, _, _, _, _⟩ ?_ rfl (by kernel_rfl) (fun _ _ _ h => h) (by rfl) hHeld ?_ ?_
     rotate_left
     ·
      intro w hSw
      (try dsimp only at hSw)
      first | (go_simp; done) | (go_simp; with_reducible rfl) | with_reducible rfl
     try simp only [Act.put, zA, zB, zC]
     refine zT 3 ⟨some 117, _, _, _, _, _⟩ ?_ rfl (by kernel_rfl) (fun _ _ _ h => h) (by rfl) hHeld ?_ ?_
     rotate_left
     ·
      intro w hSw
      (try dsimp only at hSw)
      first | (go_simp; done) | (go_simp; with_reducible rfl) | with_reducible rfl
     try simp only [Act.put, zA, zB, zC]
     refine wpAnyH_ready (rs := [1, 4]) (by kernel_rfl) (by simp) ?_
     refine AllReadyH.cons (o := ⟨some 115, _, _, _, _, _⟩) rfl (fun K hK => ?_) (AllReadyH.cons (o := ⟨some 118, _, _, _, _, _⟩) rfl (fun K hK => ?_) AllReadyH.nil)
     ·
      go_simp
      refine hK.out _ _ ?_ (fun hHeld => ?_)
      ·
       trivial
      clear hK K
      try simp only [Act.put, zA, zB, zC]
      refine wpAnyH_ready (rs := [4]) (by kernel_rfl) (by simp) ?_
      refine AllReadyH.cons (o := ⟨some 118, _, _, _, _, _⟩) rfl (fun K hK => ?_) AllReadyH.nil
      go_simp
      (refine (h6.call HU.out HM.out (by omega) (2 * ((N : Int) + 1 + (gs.length : Int))) (by omega) (by omega)).mono ?_; rintro e w9 ⟨rfl, h7, hse⟩; obtain ⟨hrow7, hP7, hB7⟩ := HST6.out _ hse; clear hse; obtain ⟨hy0, hy1⟩ := Cm.pick_lt zs a (2 * ((N : Int) + 1 + (gs.length : Int))) (by omega); generalize Cm.pickS zs a (2 * ((N : Int) + 1 + (gs.length : Int))) = y at *; have HY : Hid (Gm.litB N gs.length y = true) := lit_mk (by omega) (by omega) hy0 (by omega); have c6 := h7.cb.cell 6; simp only [zD, zE, zF] at c6)
      refine hK.out _ _ ?_ (fun hHeld => ?_)
      ·
       trivial
      clear hK K
      try simp only [Act.put, zA, zB, zC]
      refine wpAnyH_ready (rs := [5]) (by kernel_rfl) (by simp) ?_
      refine AllReadyH.cons (o := ⟨some 119, _, _, _, _, _⟩) rfl (fun K hK => ?_) AllReadyH.nil
      go_simp
      (have h8 := h7.alloc (Obj.cells #[.int .i64 y] 3); have hbk := Blk.new w9 3 #[.int .i64 y]; have hrow8 := World.ownsRow.alloc hrow7 (Obj.cells #[.int .i64 y] 3); obtain ⟨hP8, hB8⟩ := alloc_keep hP7 HC4.out hB7 (Obj.cells #[.int .i64 y] 3); generalize w9.alloc (Obj.cells #[.int .i64 y] 3) = V9 at *; have c6 := h8.cb.cell 6; simp only [zD, zE, zF] at c6)
      refine hK.out _ _ ?_ (fun hHeld => ?_)
      ·
       trivial
      clear hK K
      try simp only [Act.put, zA, zB, zC]
      refine wpAnyH_ready (rs := [6]) (by kernel_rfl) (by simp) ?_
      refine AllReadyH.cons (o := ⟨some 120, _, _, _, _, _⟩) rfl (fun K hK => ?_) AllReadyH.nil
      (rw [if_pos (by rfl)]; refine oper_app (.tmp 115) (.tmp 119) 26 rfl v (.slice (some ⟨w9.heap.size, 0, none⟩) 1 1) rfl rfl (fun v' w' => w'.ownsRow B5 3 1 v' (fs.length + 1) (iv fs ++ [.int .i64 y]) ∧ V9.grownBy w' v.ownBlock) (fun ty => (by obtain ⟨v', w', r1, r2, r3, _⟩ := app_int V9 B5 ty v fs.length _ hrow8 w9.heap.size 1 y hbk (by omega) hB8; exact ⟨v', w', r1, r2, r3⟩)) ?_; intro v' w10 hR10; obtain ⟨AL', cL', rfl⟩ := row_slice hR10.1; have h10 := h8.grown hR10.2 (fun k e => Nat.le_trans hbsB5 (row_base hrow8 k e)); have c6 := h10.cb.cell 6; have f6 := h10.cb.frozen 6; simp only [zD, zE, zF] at c6)
      refine hK.out _ _ ?_ (fun hHeld => ?_)
      ·
       trivial
      clear hK K
      try simp only [Act.put, zA, zB, zC]
      refine zT 7 ⟨some 121, _, _, _, _, _⟩ ?_ rfl (by kernel_rfl) (fun _ _ _ h => h) (by rfl) hHeld ?_ ?_
      rotate_left
      ·
       intro w hSw
       (try dsimp only at hSw)
       first | (go_simp; done) | (go_simp; with_reducible rfl) | with_reducible rfl
      try simp only [Act.put, zA, zB, zC]
      refine wpAnyH_ready (rs := [8]) (by kernel_rfl) (by simp) ?_
      refine AllReadyH.cons (o := ⟨none, _, _, _, _, _⟩) rfl (fun K hK => ?_) AllReadyH.nil
      go_simp
      refine hK.out _ _ ?_ (fun hHeld => ?_)
      ·
       trivial
      clear hK K
      try simp only [Act.put, zA, zB, zC]
      refine wpAnyH_done (by kernel_rfl) ?_ _
      go_wp2
      go_roundw
      case rel => exact FairRel.next h10 hR10.1 hP8 HC4.out hR10.2 hrow8 hbsB5 hB8 hlit HY.out (by omega) (by omega)
      case measure => simp [intOf]
     go_simp
     (refine (h6.call HU.out HM.out (by omega) (2 * ((N : Int) + 1 + (gs.length : Int))) (by omega) (by omega)).mono ?_; rintro e w9 ⟨rfl, h7, hse⟩; obtain ⟨hrow7, hP7, hB7⟩ := HST6.out _ hse; clear hse; obtain ⟨hy0, hy1⟩ := Cm.pick_lt zs a (2 * ((N : Int) + 1 + (gs.length : Int))) (by omega); generalize Cm.pickS zs a (2 * ((N : Int) + 1 + (gs.length : Int))) = y at *; have HY : Hid (Gm.litB N gs.length y = true) := lit_mk (by omega) (by omega) hy0 (by omega); have c6 := h7.cb.cell 6; simp only [zD, zE, zF] at c6)
     refine hK.out _ _ ?_ (fun hHeld => ?_)
     ·
      trivial
     clear hK K
     try simp only [Act.put, zA, zB, zC]
     refine wpAnyH_ready (rs := [1, 5]) (by kernel_rfl) (by simp) ?_
     refine AllReadyH.cons (o := ⟨some 115, _, _, _, _, _⟩) rfl (fun K hK => ?_) (AllReadyH.cons (o := ⟨some 119, _, _, _, _, _⟩) rfl (fun K hK => ?_) AllReadyH.nil)
     ·
      go_simp
      refine hK.out _ _ ?_ (fun hHeld => ?_)
      ·
       trivial
      clear hK K
      try simp only [Act.put, zA, zB, zC]
      refine wpAnyH_ready (rs := [5]) (by kernel_rfl) (by simp) ?_
      refine AllReadyH.cons (o := ⟨some 119, _, _, _, _, _⟩) rfl (fun K hK => ?_) AllReadyH.nil
      go_simp
      (have h8 := h7.alloc (Obj.cells #[.int .i64 y] 3); have hbk := Blk.new w9 3 #[.int .i64 y]; have hrow8 := World.ownsRow.alloc hrow7 (Obj.cells #[.int .i64 y] 3); obtain ⟨hP8, hB8⟩ := alloc_keep hP7 HC4.out hB7 (Obj.cells #[.int .i64 y] 3); generalize w9.alloc (Obj.cells #[.int .i64 y] 3) = V9 at *; have c6 := h8.cb.cell 6; simp only [zD, zE, zF] at c6)
      refine hK.out _ _ ?_ (fun hHeld => ?_)
      ·
       trivial
      clear hK K
      try simp only [Act.put, zA, zB, zC]
      refine wpAnyH_ready (rs := [6]) (by kernel_rfl) (by simp) ?_
      refine AllReadyH.cons (o := ⟨some 120, _, _, _, _, _⟩) rfl (fun K hK => ?_) AllReadyH.nil
      (rw [if_pos (by rfl)]; refine oper_app (.tmp 115) (.tmp 119) 26 rfl v (.slice (some ⟨w9.heap.size, 0, none⟩) 1 1) rfl rfl (fun v' w' => w'.ownsRow B5 3 1 v' (fs.length + 1) (iv fs ++ [.int .i64 y]) ∧ V9.grownBy w' v.ownBlock) (fun ty => (by obtain ⟨v', w', r1, r2, r3, _⟩ := app_int V9 B5 ty v fs.length _ hrow8 w9.heap.size 1 y hbk (by omega) hB8; exact ⟨v', w', r1, r2, r3⟩)) ?_; intro v' w10 hR10; obtain ⟨AL', cL', rfl⟩ := row_slice hR10.1; have h10 := h8.grown hR10.2 (fun k e => Nat.le_trans hbsB5 (row_base hrow8 k e)); have c6 := h10.cb.cell 6; have f6 := h10.cb.frozen 6; simp only [zD, zE, zF] at c6)
      refine hK.out _ _ ?_ (fun hHeld => ?_)
      ·
       trivial
      clear hK K
      try simp only [Act.put, zA, zB, zC]
      refine zT 7 ⟨some 121, _, _, _, _, _⟩ ?_ rfl (by kernel_rfl) (fun _ _ _ h => h) (by rfl) hHeld ?_ ?_
      rotate_left
      ·
       intro w hSw
       (try dsimp only at hSw)
       first | (go_simp; done) | (go_simp; with_reducible rfl) | with_reducible rfl
      try simp only [Act.put, zA, zB, zC]
      refine wpAnyH_ready (rs := [8]) (by kernel_rfl) (by simp) ?_
      refine AllReadyH.cons (o := ⟨none, _, _, _, _, _⟩) rfl (fun K hK => ?_) AllReadyH.nil
      go_simp
      refine hK.out _ _ ?_ (fun hHeld => ?_)
      ·
       trivial
      clear hK K
      try simp only [Act.put, zA, zB, zC]
      refine wpAnyH_done (by kernel_rfl) ?_ _
      go_wp2
      go_roundw
      case rel => exact FairRel.next h10 hR10.1 hP8 HC4.out hR10.2 hrow8 hbsB5 hB8 hlit HY.out (by omega) (by omega)
      case measure => simp [intOf]
     go_simp
     (have h8 := h7.alloc (Obj.cells #[.int .i64 y] 3); have hbk := Blk.new w9 3 #[.int .i64 y]; have hrow8 := World.ownsRow.alloc hrow7 (Obj.cells #[.int .i64 y] 3); obtain ⟨hP8, hB8⟩ := alloc_keep hP7 HC4.out hB7 (Obj.cells #[.int .i64 y] 3); generalize w9.alloc (Obj.cells #[.int .i64 y] 3) = V9 at *; have c6 := h8.cb.cell 6; simp only [zD, zE, zF] at c6)
     refine hK.out _ _ ?_ (fun hHeld => ?_)
     ·
      trivial
     clear hK K
     try simp only [Act.put, zA, zB, zC]
     refine wpAnyH_ready (rs := [1]) (by kernel_rfl) (by simp) ?_
     refine AllReadyH.cons (o := ⟨some 115, _, _, _, _, _⟩) rfl (fun K hK => ?_) AllReadyH.nil
     go_simp
     refine hK.out _ _ ?_ (fun hHeld => ?_)
     ·
      trivial
     clear hK K
     try simp only [Act.put, zA, zB, zC]
     refine wpAnyH_ready (rs := [6]) (by kernel_rfl) (by simp) ?_
     refine AllReadyH.cons (o := ⟨some 120, _, _, _, _, _⟩) rfl (fun K hK => ?_) AllReadyH.nil
     (rw [if_pos (by rfl)]; refine oper_app (.tmp 115) (.tmp 119) 26 rfl v (.slice (some ⟨w9.heap.size, 0, none⟩) 1 1) rfl rfl (fun v' w' => w'.ownsRow B5 3 1 v' (fs.length + 1) (iv fs ++ [.int .i64 y]) ∧ V9.grownBy w' v.ownBlock) (fun ty => (by obtain ⟨v', w', r1, r2, r3, _⟩ := app_int V9 B5 ty v fs.length _ hrow8 w9.heap.size 1 y hbk (by omega) hB8; exact ⟨v', w', r1, r2, r3⟩)) ?_; intro v' w10 hR10; obtain ⟨AL', cL', rfl⟩ := row_slice hR10.1; have h10 := h8.grown hR10.2 (fun k e => Nat.le_trans hbsB5 (row_base hrow8 k e)); have c6 := h10.cb.cell 6; have f6 := h10.cb.frozen 6; simp only [zD, zE, zF] at c6)
     refine hK.out _ _ ?_ (fun hHeld => ?_)
     ·
      trivial
     clear hK K
     try simp only [Act.put, zA, zB, zC]
     refine zT 7 ⟨some 121, _, _, _, _, _⟩ ?_ rfl (by kernel_rfl) (fun _ _ _ h => h) (by rfl) hHeld ?_ ?_
     rotate_left
     ·
      intro w hSw
      (try dsimp only at hSw)
      first | (go_simp; done) | (go_simp; with_reducible rfl) | with_reducible rfl
     try simp only [Act.put, zA, zB, zC]
     refine wpAnyH_ready (rs := [8]) (by kernel_rfl) (by simp) ?_
     refine AllReadyH.cons (o := ⟨none, _, _, _, _, _⟩) rfl (fun K hK => ?_) AllReadyH.nil
     go_simp
     refine hK.out _ _ ?_ (fun hHeld => ?_)
     ·
      trivial
     clear hK K
     try simp only [Act.put, zA, zB, zC]
     refine wpAnyH_done (by kernel_rfl) ?_ _
     go_wp2
     go_roundw
     case rel => exact FairRel.next h10 hR10.1 hP8 HC4.out hR10.2 hrow8 hbsB5 hB8 hlit HY.out (by omega) (by omega)
     case measure => simp [intOf]
    | zero =>
     have HREL := Lib.hid hrel0
     clear hrel0 hrow hlit hP hB h6
     have hd : decide ((0 : Int) < 0) = false := rfl
     go_wp2_with fail
     go_meet
     exact HREL.out
   obtain ⟨j, a, fs, v, -, haj, hosj, hrow, hlit, hP, hB, h6⟩ := hcut
   have hfl2 : fs.length ≤ 3 := by omega
   obtain ⟨B6, AF, cF, P5, hB5B6, hBx, rfl, hPx, hcx, hux⟩ := fin_next hP HC4.out hrow hbsB5 hB
   have hbsB6 : w.heap.size + 4 ≤ B6 := by omega
   have HC5 := Lib.hid hcx
   have HU5 := Lib.hid hux
   have HLF := Lib.hid hlit
   clear hcx hux hrow hlit hP hB
   have hP := hPx
   have hB := hBx
   clear hPx hBx
   go_step
   refine rest33_any w _ hL hR hA hC A0 c0 zs a n AL A AO AB AC AF ls.length cL gs.length cg os.length cO bs.length cB cs2.length cC fs.length cF P5 B6 _ _ _ _ _ _ _ _ _ _ _ _ _ _ _ _ _ _ _ _ _ _ _ _ _ _ _ _ _ _ _ _ _ _ _ _ _ _ _ _ _ _ _ _ _ _ _ _ _ _ _ _ _ _ _ _ _ _ _ _ _ _ _ _ _ _ _ _ _ _ _ _ _ _ _ _ _ _ _ _ _ _ _ _ _ _ _ _ _ _ _ _ _ _ _ _ _ _ _ _ _ _ _ _ _ _ _ _ _ _ _ _ _ _ _ _ _ _ _ _ _ _ _ _ _ _ _ _ _ _ _ _ _ _ _ _ _ _ _ _ _ _ _ _ _ _ _ _ _ _ _ _ _ _ HU HM (by omega) (by omega) hP HC5 hB hbsB6 h6 (fun _ _ d _ _ h => by cases d <;> exact h) ?_
   intro a' w' hend
   unfold End33 at hend
   obtain ⟨v0, hend⟩ := hend
   obtain ⟨v1, hend⟩ := hend
   obtain ⟨v3, hend⟩ := hend
   obtain ⟨v6, hend⟩ := hend
   obtain ⟨v7, hend⟩ := hend
   obtain ⟨v8, hend⟩ := hend
   obtain ⟨v9, hend⟩ := hend
   obtain ⟨v10, hend⟩ := hend
   obtain ⟨v11, hend⟩ := hend
   obtain ⟨v12, hend⟩ := hend
   obtain ⟨v13, hend⟩ := hend
   obtain ⟨v14, hend⟩ := hend
   obtain ⟨v15, hend⟩ := hend
   obtain ⟨v16, hend⟩ := hend
   obtain ⟨v17, hend⟩ := hend
   obtain ⟨v18, hend⟩ := hend
   obtain ⟨v19, hend⟩ := hend
   obtain ⟨v20, hend⟩ := hend
   obtain ⟨v21, hend⟩ := hend
   obtain ⟨v22, hend⟩ := hend
   obtain ⟨v23, hend⟩ := hend
   obtain ⟨v24, hend⟩ := hend
   obtain ⟨v25, hend⟩ := hend
   obtain ⟨v26, hend⟩ := hend
   obtain ⟨v27, hend⟩ := hend
   obtain ⟨v28, hend⟩ := hend
   obtain ⟨v29, hend⟩ := hend
   obtain ⟨v30, hend⟩ := hend
   obtain ⟨v31, hend⟩ := hend
   obtain ⟨v32, hend⟩ := hend
   obtain ⟨v33, hend⟩ := hend
   obtain ⟨v34, hend⟩ := hend
   obtain ⟨v35, hend⟩ := hend
   obtain ⟨v36, hend⟩ := hend
   obtain ⟨v37, hend⟩ := hend
   obtain ⟨v38, hend⟩ := hend
   obtain ⟨v39, hend⟩ := hend
   obtain ⟨v40, hend⟩ := hend
   obtain ⟨v41, hend⟩ := hend
   obtain ⟨v42, hend⟩ := hend
   obtain ⟨v43, hend⟩ := hend
   obtain ⟨v44, hend⟩ := hend
   obtain ⟨v45, hend⟩ := hend
   obtain ⟨v46, hend⟩ := hend
   obtain ⟨v47, hend⟩ := hend
   obtain ⟨v48, hend⟩ := hend
   obtain ⟨v49, hend⟩ := hend
   obtain ⟨v50, hend⟩ := hend
   obtain ⟨v51, hend⟩ := hend
   obtain ⟨v52, hend⟩ := hend
   obtain ⟨v53, hend⟩ := hend
   obtain ⟨v54, hend⟩ := hend
   obtain ⟨v55, hend⟩ := hend
   obtain ⟨v56, hend⟩ := hend
   obtain ⟨v57, hend⟩ := hend
   obtain ⟨v58, hend⟩ := hend
   obtain ⟨v59, hend⟩ := hend
   obtain ⟨v60, hend⟩ := hend
   obtain ⟨v61, hend⟩ := hend
   obtain ⟨v62, hend⟩ := hend
   obtain ⟨v63, hend⟩ := hend
   obtain ⟨v64, hend⟩ := hend
   obtain ⟨v65, hend⟩ := hend
   obtain ⟨v66, hend⟩ := hend
   obtain ⟨v67, hend⟩ := hend
   obtain ⟨v68, hend⟩ := hend
   obtain ⟨v69, hend⟩ := hend
   obtain ⟨v70, hend⟩ := hend
   obtain ⟨v71, hend⟩ := hend
   obtain ⟨v72, hend⟩ := hend
   obtain ⟨v73, hend⟩ := hend
   obtain ⟨v74, hend⟩ := hend
   obtain ⟨v75, hend⟩ := hend
   obtain ⟨v76, hend⟩ := hend
   obtain ⟨v77, hend⟩ := hend
   obtain ⟨v78, hend⟩ := hend
   obtain ⟨v79, hend⟩ := hend
   obtain ⟨v80, hend⟩ := hend
   obtain ⟨v81, hend⟩ := hend
   obtain ⟨v82, hend⟩ := hend
   obtain ⟨v83, hend⟩ := hend
   obtain ⟨v84, hend⟩ := hend
   obtain ⟨v85, hend⟩ := hend
   obtain ⟨v86, hend⟩ := hend
   obtain ⟨v87, hend⟩ := hend
   obtain ⟨v88, hend⟩ := hend
   obtain ⟨v89, hend⟩ := hend
   obtain ⟨v90, hend⟩ := hend
   obtain ⟨v91, hend⟩ := hend
   obtain ⟨v92, hend⟩ := hend
   obtain ⟨v93, hend⟩ := hend
   obtain ⟨v94, hend⟩ := hend
   obtain ⟨v95, hend⟩ := hend
   obtain ⟨v96, hend⟩ := hend
   obtain ⟨v97, hend⟩ := hend
   obtain ⟨v98, hend⟩ := hend
   obtain ⟨v99, hend⟩ := hend
   obtain ⟨v100, hend⟩ := hend
   obtain ⟨v101, hend⟩ := hend
   obtain ⟨v102, hend⟩ := hend
   obtain ⟨v103, hend⟩ := hend
   obtain ⟨v104, hend⟩ := hend
   obtain ⟨v105, hend⟩ := hend
   obtain ⟨v106, hend⟩ := hend
   obtain ⟨v107, hend⟩ := hend
   obtain ⟨v108, hend⟩ := hend
   obtain ⟨v109, hend⟩ := hend
   obtain ⟨v110, hend⟩ := hend
   obtain ⟨v111, hend⟩ := hend
   obtain ⟨v112, hend⟩ := hend
   obtain ⟨v113, hend⟩ := hend
   obtain ⟨v114, hend⟩ := hend
   obtain ⟨v115, hend⟩ := hend
   obtain ⟨v116, hend⟩ := hend
   obtain ⟨v117, hend⟩ := hend
   obtain ⟨v118, hend⟩ := hend
   obtain ⟨v119, hend⟩ := hend
   obtain ⟨v120, hend⟩ := hend
   obtain ⟨v121, hend⟩ := hend
   obtain ⟨v122, hend⟩ := hend
   obtain ⟨v123, hend⟩ := hend
   obtain ⟨v124, hend⟩ := hend
   obtain ⟨v125, hend⟩ := hend
   obtain ⟨v126, hend⟩ := hend
   obtain ⟨v127, hend⟩ := hend
   obtain ⟨v128, hend⟩ := hend
   obtain ⟨v129, hend⟩ := hend
   obtain ⟨v130, hend⟩ := hend
   obtain ⟨v131, hend⟩ := hend
   obtain ⟨v132, hend⟩ := hend
   obtain ⟨v133, hend⟩ := hend
   obtain ⟨v134, hend⟩ := hend
   obtain ⟨v135, hend⟩ := hend
   obtain ⟨v136, hend⟩ := hend
   obtain ⟨v137, hend⟩ := hend
   obtain ⟨v138, hend⟩ := hend
   obtain ⟨v139, hend⟩ := hend
   obtain ⟨v140, hend⟩ := hend
   obtain ⟨v141, hend⟩ := hend
   obtain ⟨v142, hend⟩ := hend
   obtain ⟨v143, hend⟩ := hend
   obtain ⟨v144, hend⟩ := hend
   obtain ⟨v145, hend⟩ := hend
   obtain ⟨v146, hend⟩ := hend
   obtain ⟨v147, hend⟩ := hend
   obtain ⟨v148, hend⟩ := hend
   obtain ⟨v149, hend⟩ := hend
   obtain ⟨v150, hend⟩ := hend
   obtain ⟨v151, hend⟩ := hend
   obtain ⟨v152, hend⟩ := hend
   obtain ⟨v153, hend⟩ := hend
   obtain ⟨v154, hend⟩ := hend
   obtain ⟨v155, hend⟩ := hend
   obtain ⟨⟨W, b, ns, x7, hok, hrowN, hPW, hBW, h9, hW'⟩, rfl⟩ := hend
   obtain ⟨AN, cN, rfl⟩ := row_slice hrowN
   obtain ⟨hO, hbk, hlow, hkeep⟩ := ret8 h9 hBW hW'
   have hP' := HC5.out _ _ hO hPW
   have hBw' := hO.le
   have hfin : MadeRet w (.returned (.agg #[.int .i64 n, .slice AL ls.length cL, .slice A gs.length cg, .slice AO os.length cO, .slice AB bs.length cB, .slice AC cs2.length cC, .slice AF fs.length cF, .slice AN ns.length cN])) w' := by
    obtain ⟨q4, hrF⟩ := HU5.out _ hP'
    obtain ⟨q3, hrC⟩ := HU4.out _ q4
    obtain ⟨q2, hrB⟩ := HU3.out _ q3
    obtain ⟨q1, hrO⟩ := HU2.out _ q2
    obtain ⟨hG, hrL⟩ := HU1.out _ q1
    have hNM := HNM.out
    have hLM := HLM.out
    have hNN : (N : Int) = n + (ls.length : Int) := by omega
    have hoff : Off w.heap.size A := fun ad e => by rcases hsep ad e with h | h <;> omega
    have hMC : MadeC ⟨n, AL, cL, ls, A, cg, gs, AO, cO, os, AB, cB, bs, AC, cC, cs2, AF, cF, fs, AN, cN, ns⟩ := ⟨right_mk (N := N) hNN hn0 (by simp; omega) (by simp; omega) (by simp; omega) (by simp; omega) hbl2 hcl2 hfl2 HR.out HLAT.out HLO.out HLB.out HLC.out HLF.out hok, hn0, (by simp; omega), (by simp; omega), (by simp; omega), hfew, (by simp; omega), hbl2, hcl2, hfl2, hok⟩
    exact ⟨⟨n, AL, cL, ls, A, cg, gs, AO, cO, os, AB, cB, bs, AC, cC, cs2, AF, cF, fs, AN, cN, ns⟩, rfl, hMC, made_wf (N := N) hMC HW.out hNN HLAT.out HLO.out HLB.out HLC.out HLF.out, ⟨_, B2, B3, B4, B5, B6, hbs, hB12, by omega, by omega, by omega, by omega, hBw', hG, hoff, hrL, hrO, hrB, hrC, hrF, hkeep hbsB6 hrowN⟩, hlow⟩
   have HFIN := Lib.hid hfin
   clear hfin
   have r0 := hbk.cell 0; have r1 := hbk.cell 1; have r2 := hbk.cell 2; have r3 := hbk.cell 3; have r4 := hbk.cell 4; have r5 := hbk.cell 5; have r6 := hbk.cell 6; have r7 := hbk.cell 7
   simp only [zD, zE, zF] at r0 r1 r2 r3 r4 r5 r6 r7
   clear hW'
   exact bodyPost_ret (v := .agg #[.int .i64 n, .slice AL ls.length cL, .slice A gs.length cg, .slice AO os.length cO, .slice AB bs.length cB, .slice AC cs2.length cC, .slice AF fs.length cF, .slice AN ns.length cN]) (by simp [results, Tryz.results15, go_sem, r0, r1, r2, r3, r4, r5, r6, r7]) rfl HFIN.out
end Go.Proofs.YtpejilhdhkmcjaaGreatDoor
