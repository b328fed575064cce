/- The writer of texts: the names; the text. -/
import Derived.Test.YtpejilhdhkmcjaaGreatDoorJaAl
import Derived.Test.YtpejilhdhkmcjaaGreatDoorJabl
import Derived.Lib.ConvBytes
namespace Go.Proofs.YtpejilhdhkmcjaaGreatDoor
open Go.RowKit

theorem namesP_app (xs ys : List Nm) : Ag.namesP (xs ++ ys) = Ag.namesP xs ++ Ag.namesP ys := by
 induction xs with
 | nil => rfl
 | cons x r ih => simp [Ag.namesP, ih]
theorem namesP_take (ns : List Nm) (j : Nat) (h : j < ns.length) : Ag.namesP (ns.take (j + 1)) = Ag.namesP (ns.take j) ++ (Ag.nameP ns[j] ++ [10]) := by
 rw [List.take_succ_eq_append_getElem h, namesP_app]
 simp [Ag.namesP]
theorem namesP_len (ns : List Nm) (j : Nat) : (Ag.namesP (ns.take j)).length ≤ (Ag.namesP ns).length := by
 have h : Ag.namesP ns = Ag.namesP (ns.take j) ++ Ag.namesP (ns.drop j) := by rw [← namesP_app, List.take_append_drop]
 rw [h, List.length_append]
 omega
theorem ixNm (b off n c r : Nat) (_hn : n ≤ 1000000) (hr : r < n) (w : World) : (Instr.indexAt 27 (.slice (some ⟨b, off, none⟩) n c) (.int .i64 (r : Int))).run Tryz.prog w = .ok (.pointer (some ⟨b, off + r * 3, none⟩)) w := by go_simp
theorem one_byte2 (w : World) (b : UInt8) (z : Int) (hz : ((b.toNat : Nat) : Int) = z) : ∀ j (hj : j < [b].length), (w.alloc (Obj.cells #[.int .u8 z] 5)).cell? ⟨w.heap.size, 0 + j, none⟩ = some (.int .u8 ((([b] : Ag.Bs)[j]).toNat : Int)) := by
 subst hz
 exact one_byte w b
theorem string_bytes (w : World) (s : ByteArray) : (convert 9 37 (.string s)).run Tryz.prog w = .ok (.slice (some ⟨w.heap.size, 0, none⟩) s.size (grownCap w s.size 0 5)) (Lib.bytesWorld w 5 s) :=
 Lib.run_convert_string_bytes w 9 37 5 s Tryz.underlying9 Tryz.underlying37 Tryz.underlying5
theorem bytes_at (w : World) (s : ByteArray) : ∀ j (hj : j < s.data.toList.length), (Lib.bytesWorld w 5 s).cell? ⟨w.heap.size, 0 + j, none⟩ = some (.int .u8 (((s.data.toList)[j]).toNat : Int)) := by
 intro j hj
 have hj2 : j < s.size := by rw [Array.length_toList] at hj; exact hj
 rw [Nat.zero_add, Lib.bytesWorld_cell w _ s j hj2, List.getD_eq_getElem?_getD, List.getElem?_eq_getElem hj]
 rfl
theorem WB.below {w w' : World} {R : Nat} {bs : Ag.Bs} (h : WB w R bs) (hb : Below w.heap.size w w') : WB w' R bs := by
 obtain ⟨v, hbk, hr⟩ := h
 exact ⟨v, hbk.below hb hbk.lt, row_low hr hb⟩
theorem WK.below {R : Nat} {a b c : World} (h : WK R a b) (k : Below b.heap.size b c) (hR : R ≤ b.heap.size) : WK R a c :=
 ⟨h.low.trans (k.mono hR), fun g o h1 h2 h3 => by
  have h4 := h.oth g o h1 h2 h3
  have hl : g < b.heap.size := (Array.getElem?_eq_some_iff.1 h4).1
  exact (k.block g hl).trans h4⟩
set_option maxRecDepth 10000 in
set_option maxHeartbeats 8000000 in
theorem wnames_any (R : Nat) (A : Option Addr) (c : Nat) (bs : Ag.Bs) (ns : List Nm) (B : Nat) (w : World) (hW : WB w R bs) (hX : Ns w R A ns) (hn : ∀ x ∈ ns, Ag.NameOk x) (hl : bs.length + (Ag.namesP ns).length ≤ 900000000) (hnl : ns.length ≤ 1000000) (hA : Amb B w) (hR : B ≤ R) :
  Calls Tryz.prog 27 #[.pointer (some ⟨R, 0, none⟩), .slice A ns.length c] w (WrP R w (bs ++ Ag.namesP ns)) := by
 have HAM : Hid (∀ V, WK R w V → Amb B V) := fun V k => hA.on (k.low.mono hR)
 have HX := Lib.hid hX
 have HN := Lib.hid hn
 clear hA hX hn
 go_enter Tryz.func27, Tryz.ntmps27
 go_wp2
 go_loopw [5, 8] (fun _ i wr => ∃ j : Nat, j ≤ ns.length ∧ i = .int .i64 (j : Int) ∧ WB wr R (bs ++ Ag.namesP (ns.take j)) ∧ WK R w wr) (fun _ i _ => ns.length - (intOf i).toNat)
 case atStart => exact ⟨0, Nat.zero_le _, rfl, by simpa [Ag.namesP] using hW, WK.refl _ _⟩
 clear hW
 obtain ⟨j, hj, rfl, hW, hk⟩ := hrel
 have hwR := hW.lt
 by_cases hlt : j < ns.length
 ·
  have hjz : (j : Int) < (ns.length : Int) := by omega
  obtain ⟨b, off, hAe, hbR, n0, n1, n2⟩ := (HX.out.below hk.low (Nat.le_refl _)) j hlt
  subst hAe
  have hix := ixNm b off ns.length c j hnl hlt
  have HST := Lib.hid (namesP_take ns j hlt)
  have hok := HN.out ns[j] (List.getElem_mem hlt)
  have hl1 := namesP_len ns (j + 1)
  rw [HST.out] at hl1
  simp only [List.length_append, List.length_cons, List.length_nil] at hl1
  generalize ns[j] = x at *
  obtain ⟨z, a, s⟩ := x
  obtain ⟨⟨z0, z1, _, _⟩, ⟨a0, a1⟩, _⟩ := hok
  simp only at z0 z1 a0 a1 n0 n1 n2
  have hnp : (Ag.nameP (z, a, s)).length = 1 + (Ag.num a.toNat).length + 1 + s.data.toList.length := by
   simp [Ag.nameP]
   omega
  rw [hnp] at hl1
  clear hnp
  have HNP : Hid (Ag.nameP (z, a, s) = UInt8.ofNat z.toNat :: (Ag.num a.toNat ++ 32 :: s.data.toList)) := rfl
  have hkb := Ag.ofNat_kind (k := z) ⟨z0, z1⟩
  generalize UInt8.ofNat z.toNat = kb at *
  obtain ⟨m, rfl⟩ : ∃ m : Nat, a = (m : Int) := ⟨a.toNat, by omega⟩
  rw [Int.toNat_natCast] at hl1 HNP
  generalize hP : bs ++ Ag.namesP (ns.take j) = P at *
  have hPl := congrArg List.length hP
  rw [List.length_append] at hPl
  have HPE := Lib.hid hP
  have hpl : P.length + (1 + (Ag.num m).length + 1 + s.data.toList.length + 1) ≤ 900000000 := by omega
  clear hP hPl hl1
  have hB1 := Blk.new wr 69 #[.int .u8 z, .int .i64 (m : Int), .string s]
  have hW1 := hW.alloc (Obj.cells #[.int .u8 z, .int .i64 (m : Int), .string s] 69)
  have hk1 := hk.alloc (Obj.cells #[.int .u8 z, .int .i64 (m : Int), .string s] 69) (by omega)
  clear hW hk
  go_upto_region 3 with fail
  clear n0 n1 n2 hix
  have hne : wr.heap.size ≠ R := by omega
  generalize wr.alloc (Obj.cells #[.int .u8 z, .int .i64 (m : Int), .string s] 69) = W1 at *
  generalize wr.heap.size = N at *
  have q0 := hB1.cell 0
  simp only [zD, zE] at q0
  have HB1 := Lib.hid (wbytes_any R W1.heap.size 0 1 P [kb] (W1.alloc (Obj.cells #[.int .u8 z] 5)) (hW1.alloc _) (one_byte2 W1 kb z hkb) (by simp only [List.length_cons, List.length_nil]; omega))
  have hk1a := hk1.alloc (Obj.cells #[.int .u8 z] 5) (Nat.le_of_lt hW1.lt)
  have hB1a := hB1.alloc (Obj.cells #[.int .u8 z] 5)
  clear hW1 hk1 hB1
  go_wp2_with fail
  refine HB1.out.mono ?_
  rintro e w2 ⟨rfl, hW2, hk2⟩
  have hB2 := hk2.blkOf hB1a hne (by decide)
  have hk2t := hk1a.trans hk2
  clear HB1 hB1a hk1a hk2 q0
  have q1 := hB2.cell 1
  simp only [zD, zE, zF] at q1
  have HB2 := Lib.hid (wnumber_any R (P ++ [kb]) m B w2 hW2 (by rw [List.length_append]; simp only [List.length_cons, List.length_nil]; omega) (by omega) (HAM.out _ hk2t) hR)
  clear hW2
  go_wp2_with fail
  refine HB2.out.mono ?_
  rintro e w3 ⟨rfl, hW3, hk3⟩
  have hB3 := hk3.blkOf hB2 hne (by decide)
  have hk3t := hk2t.trans hk3
  clear HB2 hB2 hk2t hk3 q1
  have HB3 := Lib.hid (wbytes_any R w3.heap.size 0 1 ((P ++ [kb]) ++ Ag.num m) [32] (w3.alloc (Obj.cells #[.int .u8 (((32 : UInt8).toNat : Nat) : Int)] 5)) (hW3.alloc _) (one_byte w3 32) (by simp only [List.length_append, List.length_cons, List.length_nil]; omega))
  have hk3a := hk3t.alloc (Obj.cells #[.int .u8 (((32 : UInt8).toNat : Nat) : Int)] 5) (Nat.le_of_lt hW3.lt)
  have hB3a := hB3.alloc (Obj.cells #[.int .u8 (((32 : UInt8).toNat : Nat) : Int)] 5)
  clear hW3 hk3t hB3
  go_wp2_with fail
  refine HB3.out.mono ?_
  rintro e w4 ⟨rfl, hW4, hk4⟩
  have hB4 := hk4.blkOf hB3a hne (by decide)
  have hk4t := hk3a.trans hk4
  clear HB3 hB3a hk3a hk4
  have q2 := hB4.cell 2
  simp only [zD, zE, zF] at q2
  have hcv := string_bytes w4 s
  have hbw := Lib.bytesWorld_below w4 5 s
  have hsz : s.size = s.data.toList.length := by rw [Array.length_toList]; rfl
  rw [hsz] at hcv
  have HB4 := Lib.hid (wbytes_any R w4.heap.size 0 (grownCap w4 s.data.toList.length 0 5) (((P ++ [kb]) ++ Ag.num m) ++ [32]) s.data.toList (Lib.bytesWorld w4 5 s) (hW4.below hbw) (bytes_at w4 s) (by simp only [List.length_append, List.length_cons, List.length_nil]; omega))
  have hk4a := hk4t.below hbw (Nat.le_of_lt hW4.lt)
  clear hW4 hk4t hB4 hsz hbw
  generalize Lib.bytesWorld w4 5 s = W5 at *
  go_wp2_with fail
  refine HB4.out.mono ?_
  rintro e w6 ⟨rfl, hW6, hk6⟩
  have hk6t := hk4a.trans hk6
  clear HB4 hk4a hk6 hcv q2
  have HB5 := Lib.hid (wbytes_any R w6.heap.size 0 1 ((((P ++ [kb]) ++ Ag.num m) ++ [32]) ++ s.data.toList) [10] (w6.alloc (Obj.cells #[.int .u8 (((10 : UInt8).toNat : Nat) : Int)] 5)) (hW6.alloc _) (one_byte w6 10) (by simp only [List.length_append, List.length_cons, List.length_nil]; omega))
  have hk6a := hk6t.alloc (Obj.cells #[.int .u8 (((10 : UInt8).toNat : Nat) : Int)] 5) (Nat.le_of_lt hW6.lt)
  clear hW6 hk6t
  go_wp2_with fail
  refine HB5.out.mono ?_
  rintro e w7 ⟨rfl, hW7, hk7⟩
  have hk7t := hk6a.trans hk7
  clear HB5 hk6a hk7
  go_wp2
  go_roundw
  case rel =>
   refine ⟨j + 1, by omega, by go_num, ?_, hk7t⟩
   rw [HST.out, ← List.append_assoc, HPE.out, HNP.out]
   simpa using hW7
  case measure => simp [intOf]; omega
 obtain rfl : j = ns.length := by omega
 go_wp2
 go_end0
 rw [List.take_length] at hW
 exact ⟨rfl, hW, hk⟩
set_option maxHeartbeats 2000000 in
theorem wtext_any (R : Nat) (bs : Ag.Bs) (w : World) (hW : WB w R bs) : Calls Tryz.prog 28 #[.pointer (some ⟨R, 0, none⟩)] w fun e w' => e = .returned (.string ⟨bs.toArray⟩) ∧ w = w' := by
 obtain ⟨v, hb, hrow⟩ := hW
 have c0 := hb.cell 0
 simp only [zD, zE] at c0
 have hcv := row_string hrow
 obtain ⟨A, q, rfl⟩ := row_slice hrow
 clear hrow hb
 go_enter Tryz.func28, Tryz.ntmps28
 go_wp2
 go_ret
 exact ⟨rfl, rfl⟩
end Go.Proofs.YtpejilhdhkmcjaaGreatDoor
/- The writer of texts: the signals that are literals and no more. -/
namespace Go.Proofs.YtpejilhdhkmcjaaGreatDoor
open Go.RowKit

theorem colP_app (xs ys : List Int) : Ag.colP (xs ++ ys) = Ag.colP xs ++ Ag.colP ys := by
 induction xs with
 | nil => rfl
 | cons x r ih => simp [Ag.colP, ih]
theorem colP_take (zs : List Int) (j : Nat) (h : j < zs.length) : Ag.colP (zs.take (j + 1)) = Ag.colP (zs.take j) ++ Ag.lineOf [zs[j].toNat] := by
 rw [List.take_succ_eq_append_getElem h, colP_app]
 simp [Ag.colP]
theorem colP_len (zs : List Int) (j : Nat) : (Ag.colP (zs.take j)).length ≤ (Ag.colP zs).length := by
 have h : Ag.colP zs = Ag.colP (zs.take j) ++ Ag.colP (zs.drop j) := by rw [← colP_app, List.take_append_drop]
 rw [h, List.length_append]
 omega
/-- The first few lists' lines. -/
def sigK (c : Cir) : Nat → Ag.Bs
 | 0 => []
 | 1 => Ag.colP c.os
 | 2 => Ag.colP c.os ++ Ag.colP c.bs
 | 3 => (Ag.colP c.os ++ Ag.colP c.bs) ++ Ag.colP c.cs
 | _ => ((Ag.colP c.os ++ Ag.colP c.bs) ++ Ag.colP c.cs) ++ Ag.colP c.fs
theorem sigK_all (c : Cir) : sigK c 4 = Ag.sigsP c := by simp [sigK, Ag.sigsP]
theorem sigK_len (c : Cir) (k : Nat) (h : k ≤ 4) : (sigK c k).length ≤ (Ag.sigsP c).length := by
 rw [← sigK_all]
 have : k = 0 ∨ k = 1 ∨ k = 2 ∨ k = 3 ∨ k = 4 := by omega
 rcases this with rfl | rfl | rfl | rfl | rfl <;> simp [sigK] <;> omega
def sigT (c : Cir) : Array Value := #[.slice c.aO c.os.length c.cO, .slice c.aB c.bs.length c.cB, .slice c.aC c.cs.length c.cC, .slice c.aF c.fs.length c.cF]
theorem sig_at {w : World} {R : Nat} {c : Cir} (hM : CirM w R c) (hok : Ag.PrintOk c) (k : Nat) (hk : k < 4) : ∃ A q zs, (sigT c)[k]? = some (.slice A zs.length q) ∧ Vs w R A (iv zs) ∧ (∀ z ∈ zs, 0 ≤ z ∧ z ≤ 999999) ∧ zs.length ≤ 2000 ∧ sigK c (k + 1) = sigK c k ++ Ag.colP zs := by
 have : k = 0 ∨ k = 1 ∨ k = 2 ∨ k = 3 := by omega
 rcases this with rfl | rfl | rfl | rfl
 ·
  exact ⟨_, _, c.os, rfl, hM.ho, hok.os, hok.o, rfl⟩
 ·
  exact ⟨_, _, c.bs, rfl, hM.hb, hok.bs, hok.b, rfl⟩
 ·
  exact ⟨_, _, c.cs, rfl, hM.hc, hok.cs, hok.c_, rfl⟩
 exact ⟨_, _, c.fs, rfl, hM.hf, hok.fs, hok.f, rfl⟩
theorem ixSS (b r : Nat) (hr : r < 4) (w : World) : (Instr.indexAt 91 (.slice (some ⟨b, 0, none⟩) 4 4) (.int .i64 (r : Int))).run Tryz.prog w = .ok (.pointer (some ⟨b, r, none⟩)) w := by
 have h1 : (r : Int) < 4 := by omega
 go_simp
theorem vs_num {w : World} {R : Nat} {A : Option Addr} {zs : List Int} (h : Vs w R A (iv zs)) (j : Nat) (hj : j < zs.length) : ∃ b off, A = some ⟨b, off, none⟩ ∧ w.cell? ⟨b, off + j, none⟩ = some (.int .i64 zs[j]) := by
 obtain ⟨b, off, e, hl, hc⟩ := h j (by simpa [iv] using hj)
 exact ⟨b, off, e, by rw [hc]; simp [iv]⟩
theorem arg_one (w : World) (R n : Nat) (hR : w.heap.size ≠ R) (z : Int) (hz : ((n : Nat) : Int) = z) : Arg (w.alloc (Obj.cells #[.int .i64 z] 3)) R w.heap.size 0 [n] := by
 refine ⟨_, _, Blk.new w 3 #[.int .i64 z], hR, by decide, fun j hj => ?_⟩
 have : j = 0 := by simpa using hj
 subst this
 subst hz
 rfl
set_option maxRecDepth 10000 in
set_option maxHeartbeats 2000000 in
theorem wsignals_any (R : Nat) (c : Cir) (bs : Ag.Bs) (B : Nat) (w : World) (hW : WB w R bs) (hM : CirM w R c) (hok : Ag.PrintOk c) (hl : bs.length + (Ag.sigsP c).length ≤ 800000000) (hA : Amb B w) (hR : B ≤ R) :
  Calls Tryz.prog 26 #[.pointer (some ⟨R, 0, none⟩), .agg #[.int .i64 c.n, .slice c.aL c.ls.length c.cL, .slice c.aG c.gs.length c.cG, .slice c.aO c.os.length c.cO, .slice c.aB c.bs.length c.cB, .slice c.aC c.cs.length c.cC, .slice c.aF c.fs.length c.cF, .slice c.aN c.ns.length c.cN]] w (WrP R w (bs ++ Ag.sigsP c)) := by
 have HAM : Hid (∀ V, WK R w V → Amb B V) := fun V k => hA.on (k.low.mono hR)
 have hR0 := hW.lt
 have HSA := Lib.hid (fun k hk => sig_at hM hok k hk)
 have HSL := Lib.hid (fun k hk => sigK_len c k hk)
 have hbx := Blk.new w 29 #[.int .i64 c.n, .slice c.aL c.ls.length c.cL, .slice c.aG c.gs.length c.cG, .slice c.aO c.os.length c.cO, .slice c.aB c.bs.length c.cB, .slice c.aC c.cs.length c.cC, .slice c.aF c.fs.length c.cF, .slice c.aN c.ns.length c.cN]
 have hW1 := hW.alloc (Obj.cells #[.int .i64 c.n, .slice c.aL c.ls.length c.cL, .slice c.aG c.gs.length c.cG, .slice c.aO c.os.length c.cO, .slice c.aB c.bs.length c.cB, .slice c.aC c.cs.length c.cC, .slice c.aF c.fs.length c.cF, .slice c.aN c.ns.length c.cN] 29)
 have hk1 := (WK.refl R w).alloc (Obj.cells #[.int .i64 c.n, .slice c.aL c.ls.length c.cL, .slice c.aG c.gs.length c.cG, .slice c.aO c.os.length c.cO, .slice c.aB c.bs.length c.cB, .slice c.aC c.cs.length c.cC, .slice c.aF c.fs.length c.cF, .slice c.aN c.ns.length c.cN] 29) (by omega)
 have c0 := hbx.cell 0; have c1 := hbx.cell 1; have c2 := hbx.cell 2; have c3 := hbx.cell 3; have c4 := hbx.cell 4; have c5 := hbx.cell 5; have c6 := hbx.cell 6; have c7 := hbx.cell 7; simp only [zD, zE, zF] at c0 c1 c2 c3 c4 c5 c6 c7
 clear hA hM hok hW hbx
 go_enter Tryz.func26, Tryz.ntmps26
 go_upto_region 1 with fail
 generalize w.alloc (Obj.cells #[.int .i64 c.n, .slice c.aL c.ls.length c.cL, .slice c.aG c.gs.length c.cG, .slice c.aO c.os.length c.cO, .slice c.aB c.bs.length c.cB, .slice c.aC c.cs.length c.cC, .slice c.aF c.fs.length c.cF, .slice c.aN c.ns.length c.cN] 29) = W1 at *
 go_upto_region 2 with fail
 clear c0 c1 c2 c3 c4 c5 c6 c7
 have hT : Blk (W1.alloc (Obj.cells #[.slice c.aO c.os.length c.cO, .slice c.aB c.bs.length c.cB, .slice c.aC c.cs.length c.cC, .slice c.aF c.fs.length c.cF] 26)) W1.heap.size 26 (sigT c) := Blk.new W1 26 (sigT c)
 have hW2 := hW1.alloc (Obj.cells #[.slice c.aO c.os.length c.cO, .slice c.aB c.bs.length c.cB, .slice c.aC c.cs.length c.cC, .slice c.aF c.fs.length c.cF] 26)
 have hk2 := hk1.alloc (Obj.cells #[.slice c.aO c.os.length c.cO, .slice c.aB c.bs.length c.cB, .slice c.aC c.cs.length c.cC, .slice c.aF c.fs.length c.cF] 26) (Nat.le_of_lt hW1.lt)
 have hne : W1.heap.size ≠ R := by have := hW1.lt; omega
 clear hW1 hk1
 generalize W1.alloc (Obj.cells #[.slice c.aO c.os.length c.cO, .slice c.aB c.bs.length c.cB, .slice c.aC c.cs.length c.cC, .slice c.aF c.fs.length c.cF] 26) = W2 at *
 generalize W1.heap.size = L at *
 go_loopw [5, 7, 18] (fun _ _ i wr => ∃ k : Nat, k ≤ 4 ∧ i = .int .i64 (k : Int) ∧ WB wr R (bs ++ sigK c k) ∧ WK R w wr ∧ Blk wr L 26 (sigT c)) (fun _ _ i _ => 4 - (intOf i).toNat)
 case atStart => exact ⟨0, Nat.zero_le _, rfl, by simpa [sigK] using hW2, hk2, hT⟩
 clear hW2 hk2 hT
 obtain ⟨k, hk4, rfl, hW, hk, hT⟩ := hrel
 by_cases hlt : k < 4
 ·
  have hkz : (k : Int) < 4 := by omega
  obtain ⟨A, q, zs, t1, t2, t3, t4, t5⟩ := HSA.out k hlt
  have ck := (hT.cell k).trans t1
  have hix := ixSS L k hlt
  have HZ := Lib.hid t3
  have HV := Lib.hid t2
  have HT5 := Lib.hid t5
  have hl5 := HSL.out (k + 1) (by omega)
  rw [t5, List.length_append] at hl5
  have HLC := Lib.hid (colP_len zs)
  have HL5 := Lib.hid hl5
  have HHT := Lib.hid hT
  clear t1 t2 t3 t5 hl5 hT
  go_wp2
  clear ck hix
  have HK0 := Lib.hid hk
  have HW0 := Lib.hid hW
  go_loopw [7, 24] (fun _ i V => ∃ j : Nat, j ≤ zs.length ∧ i = .int .i64 (j : Int) ∧ WB V R ((bs ++ sigK c k) ++ Ag.colP (zs.take j)) ∧ WK R wr V) (fun _ i _ => zs.length - (intOf i).toNat)
  case atStart => exact ⟨0, Nat.zero_le _, rfl, by simpa [Ag.colP] using HW0.out, WK.refl _ _⟩
  obtain ⟨j, hj, rfl, hWv, hkv⟩ := hrel
  by_cases hjl : j < zs.length
  ·
   have hjz : (j : Int) < (zs.length : Int) := by omega
   obtain ⟨b, off, hAe, cj⟩ := vs_num ((HV.out.below HK0.out.low (Nat.le_refl _)).below hkv.low (Nat.le_refl _)) j hjl
   subst hAe
   have hix := ixI b off zs.length q j (by omega) hjl
   have HST := Lib.hid (colP_take zs j hjl)
   have hz := HZ.out zs[j] (List.getElem_mem hjl)
   have hlj := HLC.out (j + 1)
   rw [HST.out, List.length_append] at hlj
   have HL := Lib.hid (HLC.out j)
   generalize zs[j] = z at *
   obtain ⟨m, rfl⟩ : ∃ m : Nat, z = (m : Int) := ⟨z.toNat, by omega⟩
   rw [Int.toNat_natCast] at HST hlj
   have hwR := hWv.lt
   have hka := hkv.alloc (Obj.cells #[.int .i64 (m : Int)] 3) (Nat.le_of_lt hwR)
   have HLN := Lib.hid (wline_any R wr.heap.size 0 1 ((bs ++ sigK c k) ++ Ag.colP (zs.take j)) [m] B (wr.alloc (Obj.cells #[.int .i64 (m : Int)] 3)) (hWv.alloc _) (arg_one wr R m (by omega) (m : Int) rfl) (by intro n hn; simp at hn; omega) (by have := HL5.out; have := HL.out; simp only [List.length_append, List.length_cons, List.length_nil]; omega) (HAM.out _ (HK0.out.trans hka)) hR)
   clear hWv hkv hlj
   go_wp2_with fail
   refine HLN.out.mono ?_
   rintro e w3 ⟨rfl, hW3, hk3⟩
   go_wp2
   go_roundw
   case rel => exact ⟨j + 1, by omega, by go_num, by rw [HST.out, ← List.append_assoc]; exact hW3, hka.trans hk3⟩
   case measure => simp [intOf]; omega
  obtain rfl : j = zs.length := by omega
  rw [List.take_length, List.append_assoc, ← HT5.out] at hWv
  have hT2 := hkv.blkOf HHT.out hne (by decide)
  have hkt := HK0.out.trans hkv
  go_wp2
  go_roundw
  case rel => exact ⟨k + 1, by omega, by go_num, hWv, hkt, hT2⟩
  case measure => simp [intOf]; omega
 obtain rfl : k = 4 := by omega
 go_wp2
 go_end0
 rw [sigK_all] at hW
 exact ⟨rfl, hW, hk⟩
end Go.Proofs.YtpejilhdhkmcjaaGreatDoor
