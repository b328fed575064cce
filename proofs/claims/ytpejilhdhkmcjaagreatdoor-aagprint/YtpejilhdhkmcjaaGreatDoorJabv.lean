/- The document's text of a circuit: columns. -/
import Derived.Test.YtpejilhdhkmcjaaGreatDoorJaAl
import Derived.Test.YtpejilhdhkmcjaaGreatDoorJabt
import Derived.Test.YtpejilhdhkmcjaaGreatDoorJaat
import Derived.Test.YtpejilhdhkmcjaaGreatDoorJaam
import Derived.Test.YtpejilhdhkmcjaaGreatDoorJabq
namespace Go.Proofs.YtpejilhdhkmcjaaGreatDoor
open Go.RowKit

theorem colP_snoc (zs : List Int) (z : Int) : Ag.colP (zs ++ [z]) = Ag.colP zs ++ (Ag.num z.toNat ++ [10]) := by
 induction zs with
 | nil => simp [Ag.colP, Ag.lineOf, Ag.spell]
 | cons a t ih =>
  rw [List.cons_append, Ag.colP, Ag.colP, ih, List.append_assoc]
set_option maxRecDepth 10000 in
set_option maxHeartbeats 4000000 in
theorem rcol_any (A : Option Addr) (c : Nat) (zs : List Int) (w : World) (hl : zs.length ≤ 2000) (hz : ∀ z ∈ zs, 0 ≤ z ∧ z ≤ 999999) (hV : Vs w w.heap.size A (iv zs)) :
  Calls Tryz.prog 32 #[.slice A zs.length c] w fun e w' => e = .returned (.string (bsv (Ag.colP zs))) ∧ Below w.heap.size w w' := by
 have HZ := Lib.hid hz
 clear hz
 go_enter Tryz.func32, Tryz.ntmps32
 go_wp2
 go_loopw [3, 4] (fun t i wr => ∃ k : Nat, k ≤ zs.length ∧ i = .int .i64 (k : Int) ∧ t = .string (bsv (Ag.colP (zs.take k))) ∧ Below w.heap.size w wr) (fun _ i _ => zs.length - (intOf i).toNat)
 case atStart => exact ⟨0, Nat.zero_le _, rfl, rfl, Below.refl _ _⟩
 obtain ⟨k, hk, rfl, rfl, lo⟩ := hrel
 have hsl := Ag.col_len (zs.take k) (fun z hz => HZ.out z (List.mem_of_mem_take hz))
 rw [List.length_take] at hsl
 by_cases hlt : k < zs.length
 ·
  have dl : decide ((k : Int) < (zs.length : Int)) = true := decide_eq_true (by omega)
  obtain ⟨b, off, rfl, _, g1⟩ := (hV.below lo (Nat.le_refl _)) k (by simpa using hlt)
  have g1' : wr.cell? ⟨b, off + k, none⟩ = some (.int .i64 zs[k]) := by simpa using g1
  have hix := ixI2 b off zs.length c k (by omega) hlt
  have HT : Hid (Ag.colP (zs.take (k + 1)) = Ag.colP (zs.take k) ++ (Ag.num (zs[k]).toNat ++ [10])) := by
   unfold Hid
   rw [List.take_succ_eq_append_getElem hlt, colP_snoc]
  have hzk := HZ.out zs[k] (List.getElem_mem _)
  clear g1
  generalize zs[k] = z at *
  obtain ⟨n, rfl⟩ : ∃ n : Nat, z = (n : Int) := ⟨z.toNat, by omega⟩
  rw [Int.toNat_natCast] at HT
  have hnl := Ag.num_len 5 n (by omega)
  have HDG := Lib.hid (digits_any n wr (by omega))
  have ha1 := add_bsv (Ag.colP (zs.take k)) (Ag.num n) (by omega)
  have ha2 := add_bsv (Ag.colP (zs.take k) ++ Ag.num n) [10] (by simp; omega)
  rw [show bsv [10] = ⟨#[10]⟩ from rfl, List.append_assoc] at ha2
  generalize Ag.colP (zs.take k) = u at *
  go_wp2_with fail
  refine HDG.out.mono ?_
  rintro e w2 ⟨rfl, hb2⟩
  have lo2 := lo.trans (hb2.mono lo.size)
  clear HDG g1' hix hb2
  go_wp2
  go_roundw
  case rel => exact ⟨k + 1, by omega, by go_num, by rw [HT.out], lo2⟩
  case measure => simp [intOf]; omega
 obtain rfl : k = zs.length := by omega
 have dl : decide ((zs.length : Int) < (zs.length : Int)) = false := decide_eq_false (by omega)
 rw [List.take_length]
 obtain ⟨u, hu⟩ : ∃ u, u = Ag.colP zs := ⟨_, rfl⟩
 rw [← hu]
 have HU := Lib.hid hu
 clear hu
 go_wp2
 go_ret
 exact ⟨by rw [← HU.out]; rfl, lo⟩
end Go.Proofs.YtpejilhdhkmcjaaGreatDoor
/- The document's text of a circuit: a latch. -/
namespace Go.Proofs.YtpejilhdhkmcjaaGreatDoor
open Go.RowKit

set_option maxRecDepth 10000 in
set_option maxHeartbeats 4000000 in
theorem rlat_text (c : Cir) (i : Nat) (w : World) (hM : CirM w w.heap.size c) (hi : i < c.ls.length) (hll : c.ls.length ≤ 2000) (hn : 0 ≤ c.n ∧ c.n ≤ 2000) (hq : (0 ≤ c.ls[i].1 ∧ c.ls[i].1 ≤ 999999) ∧ 0 ≤ c.ls[i].2 ∧ c.ls[i].2 ≤ 2) :
  Calls Tryz.prog 31 #[.agg #[.int .i64 c.n, .slice c.aL c.ls.length c.cL, .slice c.aG c.gs.length c.cG, .slice c.aO c.os.length c.cO, .slice c.aB c.bs.length c.cB, .slice c.aC c.cs.length c.cC, .slice c.aF c.fs.length c.cF, .slice c.aN c.ns.length c.cN], .int .i64 (i : Int)] w fun e w' => e = .returned (.string (bsv (Ag.latP [] (2 * (c.n.toNat + i + 1)) c.ls[i]))) ∧ Below w.heap.size w w' := by
 obtain ⟨b, off, hA, hb, g1, g2⟩ := hM.hl i hi
 have lo := lowAlloc w (Obj.cells #[.int .i64 c.n, .slice c.aL c.ls.length c.cL, .slice c.aG c.gs.length c.cG, .slice c.aO c.os.length c.cO, .slice c.aB c.bs.length c.cB, .slice c.aC c.cs.length c.cC, .slice c.aF c.fs.length c.cF, .slice c.aN c.ns.length c.cN] 29)
 have hbx := Blk.new w 29 #[.int .i64 c.n, .slice c.aL c.ls.length c.cL, .slice c.aG c.gs.length c.cG, .slice c.aO c.os.length c.cO, .slice c.aB c.bs.length c.cB, .slice c.aC c.cs.length c.cC, .slice c.aF c.fs.length c.cF, .slice c.aN c.ns.length c.cN]
 have hlt : w.heap.size < (w.alloc (Obj.cells #[.int .i64 c.n, .slice c.aL c.ls.length c.cL, .slice c.aG c.gs.length c.cG, .slice c.aO c.os.length c.cO, .slice c.aB c.bs.length c.cB, .slice c.aC c.cs.length c.cC, .slice c.aF c.fs.length c.cF, .slice c.aN c.ns.length c.cN] 29)).heap.size := by simp
 replace g1 := (lo.cell (p := ⟨b, off + i * 2, none⟩) hb).trans g1
 replace g2 := (lo.cell (p := ⟨b, off + i * 2 + 1, none⟩) hb).trans g2
 have hix := ixLt2 b off c.ls.length c.cL i (by omega) hi
 rw [hA] at hbx lo hlt g1 g2
 rw [hA]
 obtain ⟨n, hnn⟩ := Int.eq_ofNat_of_zero_le hn.1
 have hn2 := hn.2
 have HON : Hid (c.n.toNat = n) := by unfold Hid; rw [hnn]; rfl
 rw [HON.out]
 rw [hnn] at hbx lo hlt hn2 g1 g2
 rw [hnn]
 generalize c.ls[i] = q at *
 obtain ⟨x, r⟩ := q
 simp only at g1 g2 hq
 obtain ⟨⟨hx0, hx1⟩, hr0, hr1⟩ := hq
 obtain ⟨m, rfl⟩ : ∃ m : Nat, x = (m : Int) := ⟨x.toNat, by omega⟩
 have hml := Ag.num_len 5 m (by omega)
 have hol := Ag.num_len 5 (2 * (n + i + 1)) (by omega)
 have HD1 := Lib.hid (fun V => digits_any m V (by omega))
 have HD2 := Lib.hid (fun V => digits_any (2 * (n + i + 1)) V (by omega))
 have hown : ((2 * (n + i + 1) : Nat) : Int) = 2 * ((n : Int) + (i : Int) + 1) := by omega
 rw [hown] at HD2
 clear hown
 clear hM hb hn HON hnn hA
 have a10 := add_bsv (Ag.num m) [10] (by simp; omega)
 have a31 := add_bsv (Ag.num m) [32, 49] (by simp; omega)
 have a310 := add_bsv (Ag.num m ++ [32, 49]) [10] (by simp; omega)
 have a32 := add_bsv (Ag.num m) [32] (by simp; omega)
 have a3o := add_bsv (Ag.num m ++ [32]) (Ag.num (2 * (n + i + 1))) (by simp; omega)
 have a3o10 := add_bsv (Ag.num m ++ 32 :: Ag.num (2 * (n + i + 1))) [10] (by simp; omega)
 rw [show bsv [10] = ⟨#[10]⟩ from rfl] at a10 a310 a3o10
 rw [show bsv [32] = ⟨#[32]⟩ from rfl] at a32
 rw [show bsv [32, 49] = ⟨#[32, 49]⟩ from rfl] at a31
 have HE : Hid (Ag.latP [] (2 * (n + i + 1)) ((m : Int), r) = if r = 1 then Ag.num m ++ [32, 49] ++ [10] else if r = 2 then Ag.num m ++ [32] ++ Ag.num (2 * (n + i + 1)) ++ [10] else Ag.num m ++ [10]) := by
  unfold Hid Ag.latP Ag.lineOf
  simp only [Int.toNat_natCast, List.nil_append]
  by_cases h1 : r = 1
  ·
   rw [if_pos h1, if_pos h1, Ag.spell_two]
   simp [Ag.spell, Ag.num_small]
  rw [if_neg h1, if_neg h1]
  by_cases h2 : r = 2
  ·
   rw [if_pos h2, if_pos h2, Ag.spell_two]
   simp [Ag.spell]
  rw [if_neg h2, if_neg h2]
  simp [Ag.spell]
 generalize Ag.num m = tm at *
 generalize Ag.num (2 * (n + i + 1)) = to_ at *
 rcases (show r = 0 ∨ r = 1 ∨ r = 2 by omega) with rfl | rfl | rfl
 ·
  skip
  go_enter Tryz.func31, Tryz.ntmps31
  go_upto_region 1 with fail
  generalize w.alloc (Obj.cells #[.int .i64 (n : Int), .slice (some ⟨b, off, none⟩) c.ls.length c.cL, .slice c.aG c.gs.length c.cG, .slice c.aO c.os.length c.cO, .slice c.aB c.bs.length c.cB, .slice c.aC c.cs.length c.cC, .slice c.aF c.fs.length c.cF, .slice c.aN c.ns.length c.cN] 29) = W at *
  have c0 := hbx.cell 0
  have c1 := hbx.cell 1
  simp only [zD, zE, zF] at c0 c1
  go_wp2_with fail
  refine (HD1.out _).mono ?_
  rintro e w2 ⟨rfl, hb2⟩
  have lo2 := lo.trans (hb2.mono lo.size)
  replace hbx := hbx.below hb2 hlt
  have hbW : b < W.heap.size := World.block_lt_of_cell? W ⟨b, off + i * 2, none⟩ g1
  replace g2 := (hb2.cell (p := ⟨b, off + i * 2 + 1, none⟩) hbW).trans g2
  clear c0 c1 g1 lo
  have c0 := hbx.cell 0
  have c1 := hbx.cell 1
  simp only [zD, zE, zF] at c0 c1
  go_wp2
  go_ret
  exact ⟨by rw [HE.out]; first | rfl | (simp; done) | (simp; rfl), lo2⟩
 ·
  skip
  go_enter Tryz.func31, Tryz.ntmps31
  go_upto_region 1 with fail
  generalize w.alloc (Obj.cells #[.int .i64 (n : Int), .slice (some ⟨b, off, none⟩) c.ls.length c.cL, .slice c.aG c.gs.length c.cG, .slice c.aO c.os.length c.cO, .slice c.aB c.bs.length c.cB, .slice c.aC c.cs.length c.cC, .slice c.aF c.fs.length c.cF, .slice c.aN c.ns.length c.cN] 29) = W at *
  have c0 := hbx.cell 0
  have c1 := hbx.cell 1
  simp only [zD, zE, zF] at c0 c1
  go_wp2_with fail
  refine (HD1.out _).mono ?_
  rintro e w2 ⟨rfl, hb2⟩
  have lo2 := lo.trans (hb2.mono lo.size)
  replace hbx := hbx.below hb2 hlt
  have hbW : b < W.heap.size := World.block_lt_of_cell? W ⟨b, off + i * 2, none⟩ g1
  replace g2 := (hb2.cell (p := ⟨b, off + i * 2 + 1, none⟩) hbW).trans g2
  clear c0 c1 g1 lo
  have c0 := hbx.cell 0
  have c1 := hbx.cell 1
  simp only [zD, zE, zF] at c0 c1
  go_wp2
  go_ret
  exact ⟨by rw [HE.out]; first | rfl | (simp; done) | (simp; rfl), lo2⟩
 skip
 go_enter Tryz.func31, Tryz.ntmps31
 go_upto_region 1 with fail
 generalize w.alloc (Obj.cells #[.int .i64 (n : Int), .slice (some ⟨b, off, none⟩) c.ls.length c.cL, .slice c.aG c.gs.length c.cG, .slice c.aO c.os.length c.cO, .slice c.aB c.bs.length c.cB, .slice c.aC c.cs.length c.cC, .slice c.aF c.fs.length c.cF, .slice c.aN c.ns.length c.cN] 29) = W at *
 have c0 := hbx.cell 0
 have c1 := hbx.cell 1
 simp only [zD, zE, zF] at c0 c1
 go_wp2_with fail
 refine (HD1.out _).mono ?_
 rintro e w2 ⟨rfl, hb2⟩
 have lo2 := lo.trans (hb2.mono lo.size)
 replace hbx := hbx.below hb2 hlt
 have hbW : b < W.heap.size := World.block_lt_of_cell? W ⟨b, off + i * 2, none⟩ g1
 replace g2 := (hb2.cell (p := ⟨b, off + i * 2 + 1, none⟩) hbW).trans g2
 clear c0 c1 g1 lo
 have c0 := hbx.cell 0
 have c1 := hbx.cell 1
 simp only [zD, zE, zF] at c0 c1
 go_wp2_with fail
 refine (HD2.out _).mono ?_
 rintro e w3 ⟨rfl, hb3⟩
 replace lo2 := lo2.trans (hb3.mono lo2.size)
 clear c0 c1 g2 hb3
 go_wp2
 go_ret
 exact ⟨by rw [HE.out]; first | rfl | (simp; done) | (simp; rfl), lo2⟩
end Go.Proofs.YtpejilhdhkmcjaaGreatDoor
/- The document's text of a circuit: the first line. -/
namespace Go.Proofs.YtpejilhdhkmcjaaGreatDoor
open Go.RowKit

/-- Numbers, each behind a blank. -/
def hdP (ns : List Nat) : Ag.Bs := ns.flatMap (fun x => 32 :: Ag.num x)
theorem hdP_snoc (ns : List Nat) (x : Nat) : hdP (ns ++ [x]) = hdP ns ++ (32 :: Ag.num x) := by simp [hdP]
theorem hdP_spell (ns : List Nat) (h : ns ≠ []) : hdP ns = 32 :: Ag.spell ns := by
 induction ns with
 | nil => exact absurd rfl h
 | cons a t ih =>
  cases t with
  | nil => simp [hdP, Ag.spell]
  | cons b t =>
   have := ih (by simp)
   rw [Ag.spell_two]
   simp only [hdP, List.flatMap_cons] at this ⊢
   rw [this]
   simp
theorem hdP_len (ns : List Nat) (h : ∀ x ∈ ns, x ≤ 2000) : (hdP ns).length ≤ 5 * ns.length := by
 induction ns with
 | nil => simp [hdP]
 | cons a t ih =>
  have h1 := Ag.num_len 3 a (by have := h a (by simp); omega)
  have h2 := ih (fun x hx => h x (by simp [hx]))
  simp only [hdP, List.flatMap_cons, List.length_append, List.length_cons] at h2 ⊢
  omega
theorem ixN9 (g k : Nat) (hk : k < 9) (w : World) : (Instr.indexAt 26 (.slice (some ⟨g, 0, none⟩) 9 9) (.int .i64 (k : Int))).run Tryz.prog w = .ok (.pointer (some ⟨g, k, none⟩)) w := by
 have h1 : (k : Int) < 9 := by omega
 go_simp
set_option maxRecDepth 10000 in
set_option maxHeartbeats 4000000 in
theorem rhead_text (c : Cir) (w : World) (h : Ag.PrintOk c) :
  Calls Tryz.prog 30 #[.agg #[.int .i64 c.n, .slice c.aL c.ls.length c.cL, .slice c.aG c.gs.length c.cG, .slice c.aO c.os.length c.cO, .slice c.aB c.bs.length c.cB, .slice c.aC c.cs.length c.cC, .slice c.aF c.fs.length c.cF, .slice c.aN c.ns.length c.cN]] w fun e w' => e = .returned (.string (bsv (32 :: Ag.lineOf (Ag.sizes c)))) ∧ Below w.heap.size w w' := by
 have lo := lowAlloc w (Obj.cells #[.int .i64 c.n, .slice c.aL c.ls.length c.cL, .slice c.aG c.gs.length c.cG, .slice c.aO c.os.length c.cO, .slice c.aB c.bs.length c.cB, .slice c.aC c.cs.length c.cC, .slice c.aF c.fs.length c.cF, .slice c.aN c.ns.length c.cN] 29)
 have hbx := Blk.new w 29 #[.int .i64 c.n, .slice c.aL c.ls.length c.cL, .slice c.aG c.gs.length c.cG, .slice c.aO c.os.length c.cO, .slice c.aB c.bs.length c.cB, .slice c.aC c.cs.length c.cC, .slice c.aF c.fs.length c.cF, .slice c.aN c.ns.length c.cN]
 have HSF := Lib.hid (Ag.sizes_facts h)
 have hall := h.all
 have h0 := h.n0
 have ho := h.o
 have hb := h.b
 have hc := h.c_
 have hf := h.f
 obtain ⟨n, hnn⟩ := Int.eq_ofNat_of_zero_le h.n0
 rw [hnn] at hall h0
 have HSZ : Hid (Ag.sizes c = [n + c.ls.length + c.gs.length, n, c.ls.length, c.os.length, c.gs.length, c.bs.length, c.cs.length, 0, c.fs.length]) := by
  unfold Hid Ag.sizes
  rw [hnn]
  rfl
 have HLN : Hid (hdP (Ag.sizes c) = 32 :: Ag.spell (Ag.sizes c)) := hdP_spell _ (by unfold Ag.sizes; simp)
 have HSN : Hid ((Ag.sizes c).length = 9) := by unfold Hid Ag.sizes; rfl
 generalize Ag.sizes c = sz at *
 rw [hnn] at hbx lo
 rw [hnn]
 clear hnn h
 go_enter Tryz.func30, Tryz.ntmps30
 go_upto_region 1 with fail
 generalize w.alloc (Obj.cells #[.int .i64 (n : Int), .slice c.aL c.ls.length c.cL, .slice c.aG c.gs.length c.cG, .slice c.aO c.os.length c.cO, .slice c.aB c.bs.length c.cB, .slice c.aC c.cs.length c.cC, .slice c.aF c.fs.length c.cF, .slice c.aN c.ns.length c.cN] 29) = W at *
 have c0 := hbx.cell 0
 have c1 := hbx.cell 1
 have c2 := hbx.cell 2
 have c3 := hbx.cell 3
 have c4 := hbx.cell 4
 have c5 := hbx.cell 5
 have c6 := hbx.cell 6
 have c7 := hbx.cell 7
 simp only [zD, zE, zF] at c0 c1 c2 c3 c4 c5 c6 c7
 clear hbx
 go_upto_region 3 with fail
 clear c0 c1 c2 c3 c4 c5 c6 c7
 have hrow := Blk.new W 3 #[.int .i64 ((n : Int) + c.ls.length + c.gs.length), .int .i64 (n : Int), .int .i64 (c.ls.length : Int), .int .i64 (c.os.length : Int), .int .i64 (c.gs.length : Int), .int .i64 (c.bs.length : Int), .int .i64 (c.cs.length : Int), .int .i64 0, .int .i64 (c.fs.length : Int)]
 have lo1 := lo.alloc lo.size (Obj.cells #[.int .i64 ((n : Int) + c.ls.length + c.gs.length), .int .i64 (n : Int), .int .i64 (c.ls.length : Int), .int .i64 (c.os.length : Int), .int .i64 (c.gs.length : Int), .int .i64 (c.bs.length : Int), .int .i64 (c.cs.length : Int), .int .i64 0, .int .i64 (c.fs.length : Int)] 3)
 have hgz : W.heap.size < (W.alloc (Obj.cells #[.int .i64 ((n : Int) + c.ls.length + c.gs.length), .int .i64 (n : Int), .int .i64 (c.ls.length : Int), .int .i64 (c.os.length : Int), .int .i64 (c.gs.length : Int), .int .i64 (c.bs.length : Int), .int .i64 (c.cs.length : Int), .int .i64 0, .int .i64 (c.fs.length : Int)] 3)).heap.size := by simp
 generalize W.alloc (Obj.cells #[.int .i64 ((n : Int) + c.ls.length + c.gs.length), .int .i64 (n : Int), .int .i64 (c.ls.length : Int), .int .i64 (c.os.length : Int), .int .i64 (c.gs.length : Int), .int .i64 (c.bs.length : Int), .int .i64 (c.cs.length : Int), .int .i64 0, .int .i64 (c.fs.length : Int)] 3) = W2 at *
 have HCL : Hid (∀ k (hk : k < sz.length), W2.cell? ⟨W.heap.size, k, none⟩ = some (.int .i64 (sz[k] : Int))) := by
  intro k hk
  have hsz := HSZ.out
  subst hsz
  rw [hrow.cell k]
  have hk9 : k < 9 := hk
  match k, hk9 with
  | 0, _ => simp
  | 1, _ => simp
  | 2, _ => simp
  | 3, _ => simp
  | 4, _ => simp
  | 5, _ => simp
  | 6, _ => simp
  | 7, _ => simp
  | 8, _ => simp
 generalize W.heap.size = g at *
 clear hrow HSZ hall h0 ho hb hc hf lo
 go_wp2
 go_loopw [5, 6] (fun t i wr => ∃ k : Nat, k ≤ 9 ∧ i = .int .i64 (k : Int) ∧ t = .string (bsv (hdP (sz.take k))) ∧ Below W2.heap.size W2 wr) (fun _ i _ => 9 - (intOf i).toNat)
 case atStart => exact ⟨0, Nat.zero_le _, rfl, rfl, Below.refl _ _⟩
 obtain ⟨k, hk, rfl, rfl, lx⟩ := hrel
 have hsl := hdP_len (sz.take k) (fun x hx => HSF.out x (List.mem_of_mem_take hx))
 rw [List.length_take] at hsl
 by_cases hlt : k < 9
 ·
  have dl : decide ((k : Int) < 9) = true := decide_eq_true (by omega)
  have hks : k < sz.length := by have := HSN.out; omega
  have g1 := (lx.cell (p := ⟨g, k, none⟩) hgz).trans (HCL.out k hks)
  have hix := ixN9 g k hlt
  have HT : Hid (hdP (sz.take (k + 1)) = hdP (sz.take k) ++ (32 :: Ag.num sz[k])) := by
   unfold Hid
   rw [List.take_succ_eq_append_getElem hks, hdP_snoc]
  have hzk := HSF.out sz[k] (List.getElem_mem _)
  generalize sz[k] = z at *
  have hnl := Ag.num_len 5 z (by omega)
  have HDG := Lib.hid (digits_any z wr (by omega))
  have ha1 := add_bsv (hdP (sz.take k)) [32] (by simp; omega)
  have ha2 := add_bsv (hdP (sz.take k) ++ [32]) (Ag.num z) (by simp; omega)
  rw [show bsv [32] = ⟨#[32]⟩ from rfl] at ha1
  rw [List.append_assoc] at ha2
  generalize hdP (sz.take k) = u at *
  go_wp2_with fail
  refine HDG.out.mono ?_
  rintro e w2 ⟨rfl, hb2⟩
  have lx2 := lx.trans (hb2.mono lx.size)
  clear HDG g1 hix hb2 hks
  go_wp2
  go_roundw
  case rel => exact ⟨k + 1, by omega, by go_num, by rw [HT.out], lx2⟩
  case measure => simp [intOf]; omega
 obtain rfl : k = 9 := by omega
 have HE : Hid (bsv (hdP (sz.take 9) ++ [10]) = bsv (32 :: Ag.lineOf sz)) := by
  unfold Hid
  rw [List.take_of_length_le (by have := HSN.out; omega), HLN.out]
  rfl
 have ha := add_bsv (hdP (sz.take 9)) [10] (by simp; omega)
 rw [show bsv [10] = ⟨#[10]⟩ from rfl] at ha
 generalize hdP (sz.take 9) = u at *
 go_wp2
 go_ret
 exact ⟨by rw [← HE.out]; rfl, lo1.trans (lx.mono lo1.size)⟩
end Go.Proofs.YtpejilhdhkmcjaaGreatDoor
