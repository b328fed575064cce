/- The reference's Signal, Find, Is, After. -/
import Derived.Test.YtpejilhdhkmcjaaGreatDoorJbAl
import Derived.Test.YtpejilhdhkmcjaaGreatDoorJbao
import Derived.Test.YtpejilhdhkmcjaaGreatDoorJbap
import Derived.ChangeMaps5
import Derived.Deep.Fields
namespace Go.Proofs.YtpejilhdhkmcjaaGreatDoor
open Go.RowKit

end Go.Proofs.YtpejilhdhkmcjaaGreatDoor
/- The reference's Find. -/
namespace Go.Proofs.YtpejilhdhkmcjaaGreatDoor
open Go.RowKit

end Go.Proofs.YtpejilhdhkmcjaaGreatDoor
/- same of layer 4: what the program tells of a circuit is what the document says. -/
namespace Go.Proofs.YtpejilhdhkmcjaaGreatDoor
open Go.RowKit

end Go.Proofs.YtpejilhdhkmcjaaGreatDoor
/- How a circuit that came in is opened. -/
namespace Go.Proofs.YtpejilhdhkmcjaaGreatDoor
open Go.ChangeShapes Go.WideShapes Go.ChangeAt Go.RowKit Go.Deep Go.Joins Go.WideElems

/-- What is known of a circuit that came in. -/
structure CirO (c : Cir) : Prop where
 hn : I64 c.n
 hl : Wf c.ls
 hg : Wf c.gs
 ho : IWf c.os
 hb : IWf c.bs
 hc : IWf c.cs
 hf : IWf c.fs
 hk : ∀ x ∈ c.ns, (0 ≤ x.1 ∧ x.1 ≤ 255) ∧ I64 x.2.1 ∧ x.2.2.size ≤ maxLen
 ml : c.ls.length ≤ maxLen
 mg : c.gs.length ≤ maxLen
 lo : c.os.length ≤ maxLen
 lb : c.bs.length ≤ maxLen
 lc : c.cs.length ≤ maxLen
 lf : c.fs.length ≤ maxLen
 mn : c.ns.length ≤ maxLen
 cap : c.ns.length ≤ c.cN
section
variable {H : Type} {enc : TypeId × Value → H} {W : World} {base : Nat} {spare : Nat → Bool} {held : Bool}
end

namespace Cm
end Cm
end Go.Proofs.YtpejilhdhkmcjaaGreatDoor
/- Made of layer 1, once more: its gates lie in new memory. -/
namespace Go.Proofs.YtpejilhdhkmcjaaGreatDoor
open Go.RowKit

/-- What Made hands back. -/
def MadePost2 (n : Int) (w : World) (e : Ending) (w' : World) : Prop :=
 ∃ (A : Option Addr) (c : Nat) (gs : List (Int × Int)) (last : Int), e = .returned (.tuple #[.agg #[.int .i64 n, .slice A gs.length c], .int .i64 last]) ∧ Gr w' w'.heap.size A gs ∧ Good n gs 40 last ∧ Below w.heap.size w w' ∧ Sep 0 w.heap.size A
set_option maxRecDepth 100000 in
set_option maxHeartbeats 4000000 in
theorem made2_any (n : Int) (A0 : Option Addr) (c0 : Nat) (zs : List Int) (w : World) (h0 : 0 ≤ n) (h6 : n ≤ 6) (hm : zs.length ≤ maxLen) (hU : Us w w.heap.size A0 zs) :
  Calls Tryz.prog 35 #[.int .i64 n, .slice A0 zs.length c0] w (MadePost2 n w) := by
 unfold maxLen at hm
 have hst : MInv w ((w.alloc (Obj.cells #[Value.int .i64 0, .slice none 0 0] 64)).alloc (Obj.cells #[.int .i64 n, .slice none 0 0] 64)) n none 0 [] :=
  ⟨((Below.refl w.heap.size w).alloc (Nat.le_refl _) _).alloc (by simp) _, by go_simp, by go_simp, by go_simp, by go_simp, by go_simp, by go_simp, by go_simp, by go_simp, by simp, gr_nil, Sep.none_⟩
 have HST := Lib.hid hst
 clear hst
 go_enter Tryz.func35, Tryz.ntmps35
 go_wp2
 go_loopw [7, 8] (fun last i wr => MRel w n zs.length last i wr) (fun _ i _ => 40 - (intOf i).toNat)
 case atStart => exact ⟨0, none, 0, [], 1, Nat.zero_le _, by omega, rfl, rfl, Good.start h0 h6, HST.out⟩
 obtain ⟨k, A, c, gs, l, hk, hk4, rfl, rfl, hgood, hinv⟩ := hrel
 have d0 := hinv.d0
 have d1 := hinv.d1
 by_cases hlt : k < zs.length
 ·
  by_cases hlt4 : k < 40
  ·
   have hgl := hgood.few
   obtain ⟨b, off, hA, hbB, z1, z2, z3⟩ := (hU.below hinv.low (Nat.le_refl _)) k hlt
   subst hA
   generalize zs[k] = z at *
   go_wp2_with fail
   refine (refVars_any n A gs.length c wr h0 (by omega) (by omega)).mono ?_
   rintro e w1 ⟨rfl, hb1⟩
   have hi1 := hinv.below hb1
   have z1' := (hb1.cell (p := ⟨b, off + k, none⟩) (Nat.lt_of_lt_of_le hbB hinv.low.size)).trans z1
   have hix := ixU b off zs.length c0 k (by omega) hlt
   go_upto_region 7 with fail
   generalize hM : 2 * (n + 1 + (gs.length : Int)) = M at *
   have hM0 : 0 < M := by omega
   have hM1 : M ≤ 94 := by omega
   have hM2 : ¬ M = 0 := by omega
   have HM := Lib.hid hM
   clear hM z1 d0 d1
   have hd1 := Int.emod_nonneg z hM2
   have hd2 := Int.emod_lt_of_pos z hM0
   have hq0 : 0 ≤ z / M := Int.ediv_nonneg z2 (by omega)
   have hd3 := Int.emod_nonneg (z / M) hM2
   have hd4 := Int.emod_lt_of_pos (z / M) hM0
   have hgood' := hgood
   obtain ⟨hr, hfew, hwf, hlit⟩ := hgood'
   have hx : Gm.litB n gs.length (z % M) = true := lit_mk h0 (by omega) hd1 (by have := HM.out; omega)
   have hy : Gm.litB n gs.length (z / M % M) = true := lit_mk h0 (by omega) hd3 (by have := HM.out; omega)
   have hag := and_good hr hx hy (by omega)
   have haf := and_facts n gs (z % M) (z / M % M) hwf
   have HAND := Lib.hid (fun q => refAnd_any n A c gs (z % M) (z / M % M) (w1.drewN q) w1.heap.size (by omega) hi1.gr (Nat.le_refl _) hwf (by omega) (by omega))
   go_quiet (fail)
   generalize Gm.andS n gs (z % M) (z / M % M) = r at *
   obtain ⟨⟨n', gs'⟩, l', er⟩ := r
   obtain ⟨he, hi, hr', hlit', hgrow, _⟩ := hag
   simp only at he hi hr' hlit' hgrow
   subst he hi
   have hwf' : Wf gs' := haf.wf
   have d0 := hi1.d0
   have d1 := hi1.d1
   go_wp2_with fail
   refine (HAND.out nq).mono ?_
   rintro e w2 ⟨A', c', rfl, hG2, hsep2, hb2⟩
   have hi2 := (hi1.drewN nq).below hb2
   have hi3 := hi2.below ((Below.refl w2.heap.size w2).alloc (Nat.le_refl _) (Obj.cells #[.int .i64 n', .slice A' gs'.length c'] 64))
   have hk3 := Blk.new w2 64 #[.int .i64 n', .slice A' gs'.length c']
   have hG3 := (hG2.below ((Below.refl w2.heap.size w2).alloc (Nat.le_refl _) (Obj.cells #[.int .i64 n', .slice A' gs'.length c'] 64)) (Nat.le_refl _)).more (by simp : w2.heap.size ≤ (w2.alloc (Obj.cells #[.int .i64 n', .slice A' gs'.length c'] 64)).heap.size)
   have hsp : Sep 0 (w.heap.size + 2) A' := by
    rcases hsep2 with ⟨rfl, _⟩ | h
    ·
     exact hinv.sep
    exact h.mono (Nat.le_refl _) hi1.sz
   have z1'' : (w2.alloc (Obj.cells #[.int .i64 n', .slice A' gs'.length c'] 64)).cell? ⟨b, off + k, none⟩ = some (.int .u16 z) :=
    (World.cell?_alloc_lt w2 _ ⟨b, off + k, none⟩ (Nat.lt_of_lt_of_le (Nat.lt_of_lt_of_le hbB hi1.low.size) hb2.size)).trans ((hb2.cell (p := ⟨b, off + k, none⟩) (Nat.lt_of_lt_of_le hbB hi1.low.size)).trans z1')
   have q0 := hk3.cell 0
   have q1 := hk3.cell 1
   simp only [zD, zE, zF] at q0 q1
   have hlt3 : w.heap.size + 1 < w2.heap.size := hi2.sz
   clear d0 d1 z1'
   go_upto_region 10 with fail
   generalize w2.alloc (Obj.cells #[.int .i64 n', .slice A' gs'.length c'] 64) = V at *
   have d0 := hi3.d0
   have d1 := hi3.d1
   have g0 := hi3.g0
   have g1 := hi3.g1
   go_region
   go_wp2
   have hl4 : l' ≤ 4000 := haf.lit1
   have hgd : Good n' gs' (k + 1) (bits .xor .i64 l' (z / 7 % 2)) := ⟨hr', by omega, hwf', xor_lit hlit' (by omega) (by omega)⟩
   have hfin : MInv w ((V.setCell ⟨w.heap.size + 1, 0, none⟩ (.int .i64 n')).setCell ⟨w.heap.size + 1, 1, none⟩ (.slice A' gs'.length c')).drew n' A' c' gs' := (hi3.put hG3 hsp).drew
   exact ⟨⟨k + 1, A', c', gs', _, by omega, by omega, by go_num, rfl, hgd, hfin⟩, by simp [intOf]; omega⟩
  have hd : decide ((k : Int) < 40) = false := by simp; omega
  have e0 := hinv.e0
  have e1 := hinv.e1
  have f0 := hinv.f0
  have f1 := hinv.f1
  go_wp2
  obtain ⟨hlo, r0, r1, hGf⟩ := made_close hinv
  exact bodyPost_ret (v := .tuple #[.agg #[.int .i64 n, .slice A gs.length c], .int .i64 l]) (by simp [results, Tryz.results35, go_sem, r0, r1]) rfl ⟨A, c, gs, l, rfl, hGf, ⟨hgood.right, Nat.le_trans hgood.few hk4, hgood.wf, hgood.lit⟩, hlo, hinv.sep.mono (Nat.le_refl _) (by omega)⟩
 have hd : decide ((k : Int) < (zs.length : Int)) = false := by simp; omega
 have e0 := hinv.e0
 have e1 := hinv.e1
 have f0 := hinv.f0
 have f1 := hinv.f1
 go_wp2
 obtain ⟨hlo, r0, r1, hGf⟩ := made_close hinv
 exact bodyPost_ret (v := .tuple #[.agg #[.int .i64 n, .slice A gs.length c], .int .i64 l]) (by simp [results, Tryz.results35, go_sem, r0, r1]) rfl ⟨A, c, gs, l, rfl, hGf, ⟨hgood.right, Nat.le_trans hgood.few hk4, hgood.wf, hgood.lit⟩, hlo, hinv.sep.mono (Nat.le_refl _) (by omega)⟩
end Go.Proofs.YtpejilhdhkmcjaaGreatDoor
/- pick, of Made of layer 4. -/
namespace Go.Proofs.YtpejilhdhkmcjaaGreatDoor
open Go.RowKit

namespace Cm
/-- The number at a place, below n; 0 where there is none. -/
def pickS (zs : List Int) (a : Nat) (n : Int) : Int := if a < zs.length then zs.getD a 0 % n else 0
theorem pick_lt (zs : List Int) (a : Nat) (n : Int) (hn : 0 < n) : 0 ≤ pickS zs a n ∧ pickS zs a n < n := by
 unfold pickS
 split
 ·
  exact ⟨Int.emod_nonneg _ (by omega), Int.emod_lt_of_pos _ hn⟩
 omega
end Cm
theorem Us.set {w : World} {B : Nat} {A : Option Addr} {zs : List Int} (h : Us w B A zs) {p : Addr} (hp : B ≤ p.block) (u : Value) : Us (w.setCell p u) B A zs := by
 intro k hk
 obtain ⟨b, off, rfl, hlt, h1, h2⟩ := h k hk
 exact ⟨b, off, rfl, hlt, (World.cell?_setCell_other _ _ _ _ (fun e => by have := congrArg Addr.block e; simp at this; omega)).trans h1, h2⟩

set_option maxRecDepth 100000 in
set_option maxHeartbeats 2000000 in
theorem pick_any (ab lb : Nat) (A : Option Addr) (c : Nat) (zs : List Int) (a : Nat) (n : Int) (w : World) (B : Nat) (hB : B ≤ ab) (hU : Us w B A zs) (hlen : zs.length ≤ maxLen) (ha : a ≤ 100000) (hn : 0 < n) (hn1 : n ≤ 65536) (hne : lb ≠ ab)
  (h0 : w.cell? ⟨ab, 0, none⟩ = some (.int .i64 (a : Int))) (hf : w.frozen? ⟨ab, 0, none⟩ = false) (h1 : w.cell? ⟨lb, 0, none⟩ = some (.slice A zs.length c)) :
  Calls Tryz.prog 34 #[.int .i64 n, .pointer (some ⟨ab, 0, none⟩), .pointer (some ⟨lb, 0, none⟩)] w fun e w' => e = .returned (.int .i64 (Cm.pickS zs a n)) ∧ w.setCell ⟨ab, 0, none⟩ (.int .i64 ((a : Int) + 1)) = w' := by
 unfold maxLen at hlen
 have hset : (w.setCell ⟨ab, 0, none⟩ (.int .i64 ((a : Int) + 1))).cell? ⟨ab, 0, none⟩ = some (.int .i64 ((a : Int) + 1)) := World.cell?_setCell_same _ _ _ h0
 have hset1 : (w.setCell ⟨ab, 0, none⟩ (.int .i64 ((a : Int) + 1))).cell? ⟨lb, 0, none⟩ = some (.slice A zs.length c) := (World.cell?_setCell_other _ _ _ _ (fun e => hne (by have := congrArg Addr.block e; simpa using this.symm))).trans h1
 have hU2 := hU.set (p := ⟨ab, 0, none⟩) hB (.int .i64 ((a : Int) + 1))
 by_cases hlt : a < zs.length
 ·
  obtain ⟨b, off, hA, hbB, z1, z2, z3⟩ := hU2 a hlt
  have HP : Hid (Cm.pickS zs a n = zs[a] % n) := by
   unfold Hid Cm.pickS
   rw [if_pos hlt]
   simp [List.getD_eq_getElem?_getD, List.getElem?_eq_getElem hlt]
  generalize Cm.pickS zs a n = y at *
  generalize zs[a] = z at *
  subst hA
  have hix := ixU b off zs.length c a (by omega) hlt
  have hd : decide ((zs.length : Int) < (a : Int) + 1) = false := decide_eq_false (by omega)
  go_enter Tryz.func34, Tryz.ntmps34
  go_upto_region 2 with fail
  generalize hVe : w.setCell ⟨ab, 0, none⟩ (.int .i64 ((a : Int) + 1)) = V at *
  have HV := Lib.hid hVe
  clear h0 h1 hf hVe
  go_wp2
  go_ret
  exact ⟨by rw [HP.out]; rfl, HV.out⟩
 have HP : Hid (Cm.pickS zs a n = 0) := by
  unfold Hid Cm.pickS
  rw [if_neg hlt]
 generalize Cm.pickS zs a n = y at *
 have hd : decide ((zs.length : Int) < (a : Int) + 1) = true := decide_eq_true (by omega)
 go_enter Tryz.func34, Tryz.ntmps34
 go_upto_region 2 with fail
 generalize hVe : w.setCell ⟨ab, 0, none⟩ (.int .i64 ((a : Int) + 1)) = V at *
 have HV := Lib.hid hVe
 clear h0 h1 hf hVe
 go_wp2
 go_ret
 exact ⟨by rw [HP.out]; rfl, HV.out⟩
end Go.Proofs.YtpejilhdhkmcjaaGreatDoor
/- Rows of one list's elements that the call itself makes, one element more at a time: numbers, latches, names. -/
namespace Go.Proofs.YtpejilhdhkmcjaaGreatDoor
open Go.RowKit

theorem app_own (w : World) (base : Nat) (t ty e : TypeId) (i : TypeInfo) (z : Value) (size bytes : Nat) (ht : Tryz.prog.underlying t = some (.slice e)) (hi : Tryz.prog.info? e = some i) (hz : i.zero = some z)
  (hsize : i.size = size) (hby : i.bytes = bytes) (hb : bytes ≤ 64) (hzs : z.cells.size = size) (hsz : 0 < size) (v : Value) (n : Nat) (xs : List Value) (hown : w.ownsRow base e size v n xs)
  (b c : Nat) (cs : List Value) (hbk : Blk w b e cs.toArray) (hl : cs.length = size) (h1 : ∀ u ∈ cs, u.oneCell' = true) (hn : n ≤ 100000) (hbase : base ≤ w.heap.size) :
  ∃ v' w', (Builtin.append_ #[t, t] ty #[v, .slice (some ⟨b, 0, none⟩) 1 c]).run Tryz.prog w = .ok v' w' ∧ w'.ownsRow base e size v' (n + 1) (xs ++ cs) ∧ w.grownBy w' v.ownBlock ∧ (v'.ownBlock = v.ownBlock ∨ v'.ownBlock = some w.heap.size) := by
 have hcell : ∀ j u, cs[j]? = some u → w.cell? ((⟨b, 0, none⟩ : Addr).add j) = some u := by
  intro j u hj
  have ha : (⟨b, 0, none⟩ : Addr).add j = ⟨b, j, none⟩ := by
   simp [Addr.add]
   exact fun h => h.symm
  rw [ha, hbk.cell j]
  simpa using hj
 have hbb : (n + 1) * bytes ≤ 140737488355328 := by
  have h := Nat.mul_le_mul (show n + 1 ≤ 100001 by omega) hb
  omega
 obtain ⟨v', w', r1, r2, r3, _, r5⟩ := run_append_own_at (P := Tryz.prog) w base t ty e i z size bytes ht hi hz hsize hby hzs hsz v n xs hown ⟨b, 0, none⟩ 1 c cs (by rw [hl, Nat.one_mul]) hcell h1 (by unfold maxLen; omega) hbb hbase
 exact ⟨v', w', r1, r2, r3, r5⟩
theorem app_u16 (w : World) (base : Nat) (ty : TypeId) (v : Value) (n : Nat) (xs : List Value) (hown : w.ownsRow base 40 1 v n xs) (b c : Nat) (x : Int) (hbk : Blk w b 40 #[.int .u16 x]) (hn : n ≤ 100000) (hbase : base ≤ w.heap.size) :
  ∃ v' w', (Builtin.append_ #[34, 34] ty #[v, .slice (some ⟨b, 0, none⟩) 1 c]).run Tryz.prog w = .ok v' w' ∧ w'.ownsRow base 40 1 v' (n + 1) (xs ++ [.int .u16 x]) ∧ w.grownBy w' v.ownBlock ∧ (v'.ownBlock = v.ownBlock ∨ v'.ownBlock = some w.heap.size) :=
 app_own w base 34 ty 40 Tryz.t40 (.int .u16 0) 1 2 Tryz.underlying34 (by kernel_rfl) (by kernel_rfl) (by kernel_rfl) (by kernel_rfl) (by omega) (by kernel_rfl) (by omega) v n xs hown b c [.int .u16 x] hbk rfl (fun u hu => by simp at hu; subst hu; rfl) hn hbase
theorem app_int (w : World) (base : Nat) (ty : TypeId) (v : Value) (n : Nat) (xs : List Value) (hown : w.ownsRow base 3 1 v n xs) (b c : Nat) (x : Int) (hbk : Blk w b 3 #[.int .i64 x]) (hn : n ≤ 100000) (hbase : base ≤ w.heap.size) :
  ∃ v' w', (Builtin.append_ #[26, 26] ty #[v, .slice (some ⟨b, 0, none⟩) 1 c]).run Tryz.prog w = .ok v' w' ∧ w'.ownsRow base 3 1 v' (n + 1) (xs ++ [.int .i64 x]) ∧ w.grownBy w' v.ownBlock ∧ (v'.ownBlock = v.ownBlock ∨ v'.ownBlock = some w.heap.size) :=
 app_own w base 26 ty 3 Tryz.t3 (.int .i64 0) 1 8 Tryz.underlying26 (by kernel_rfl) (by kernel_rfl) (by kernel_rfl) (by kernel_rfl) (by omega) (by kernel_rfl) (by omega) v n xs hown b c [.int .i64 x] hbk rfl (fun u hu => by simp at hu; subst hu; rfl) hn hbase
theorem app_latch (w : World) (base : Nat) (ty : TypeId) (v : Value) (n : Nat) (xs : List Value) (hown : w.ownsRow base 49 2 v n xs) (b c : Nat) (x y : Int) (hbk : Blk w b 49 #[.int .i64 x, .int .i64 y]) (hn : n ≤ 100000) (hbase : base ≤ w.heap.size) :
  ∃ v' w', (Builtin.append_ #[24, 24] ty #[v, .slice (some ⟨b, 0, none⟩) 1 c]).run Tryz.prog w = .ok v' w' ∧ w'.ownsRow base 49 2 v' (n + 1) (xs ++ [.int .i64 x, .int .i64 y]) ∧ w.grownBy w' v.ownBlock ∧ (v'.ownBlock = v.ownBlock ∨ v'.ownBlock = some w.heap.size) :=
 app_own w base 24 ty 49 Tryz.t49 (.agg #[.int .i64 0, .int .i64 0]) 2 16 Tryz.underlying24 (by kernel_rfl) (by kernel_rfl) (by kernel_rfl) (by kernel_rfl) (by omega) (by kernel_rfl) (by omega) v n xs hown b c [.int .i64 x, .int .i64 y] hbk rfl (fun u hu => by simp at hu; rcases hu with rfl | rfl <;> rfl) hn hbase
theorem app_name (w : World) (base : Nat) (ty : TypeId) (v : Value) (n : Nat) (xs : List Value) (hown : w.ownsRow base 69 3 v n xs) (b c : Nat) (k x : Int) (s : ByteArray) (hbk : Blk w b 69 #[.int .u8 k, .int .i64 x, .string s]) (hn : n ≤ 100000) (hbase : base ≤ w.heap.size) :
  ∃ v' w', (Builtin.append_ #[27, 27] ty #[v, .slice (some ⟨b, 0, none⟩) 1 c]).run Tryz.prog w = .ok v' w' ∧ w'.ownsRow base 69 3 v' (n + 1) (xs ++ [.int .u8 k, .int .i64 x, .string s]) ∧ w.grownBy w' v.ownBlock ∧ (v'.ownBlock = v.ownBlock ∨ v'.ownBlock = some w.heap.size) :=
 app_own w base 27 ty 69 Tryz.t69 (.agg #[.int .u8 0, .int .i64 0, .string ⟨#[]⟩]) 3 32 Tryz.underlying27 (by kernel_rfl) (by kernel_rfl) (by kernel_rfl) (by kernel_rfl) (by omega) (by kernel_rfl) (by omega) v n xs hown b c [.int .u8 k, .int .i64 x, .string s] hbk rfl (fun u hu => by simp at hu; rcases hu with rfl | rfl | rfl <;> rfl) hn hbase

/-- The cells of names. -/
def flatN : List Nm → List Value
 | [] => []
 | x :: r => .int .u8 x.1 :: .int .i64 x.2.1 :: .string x.2.2 :: flatN r
theorem flatN_append (ns ms : List Nm) : flatN (ns ++ ms) = flatN ns ++ flatN ms := by
 induction ns with
 | nil => rfl
 | cons g r ih => simp [flatN, ih]
theorem flatN_get (ns : List Nm) (k : Nat) (h : k < ns.length) : (flatN ns)[k * 3]? = some (.int .u8 (ns[k]).1) ∧ (flatN ns)[k * 3 + 1]? = some (.int .i64 (ns[k]).2.1) ∧ (flatN ns)[k * 3 + 2]? = some (.string (ns[k]).2.2) := by
 induction ns generalizing k with
 | nil => simp at h
 | cons g r ih =>
  cases k with
  | zero => simp [flatN]
  | succ k =>
   have := ih k (by simpa using h)
   rw [show (k + 1) * 3 = k * 3 + 1 + 1 + 1 by omega]
   simpa [flatN] using this
/-- A row of the call's own, as its list. -/
theorem latch_gr {w : World} {base : Nat} {v : Value} {ls : List (Int × Int)} (h : w.ownsRow base 49 2 v ls.length (flat ls)) : ∃ A c, v = .slice A ls.length c ∧ Gr w w.heap.size A ls := by
 obtain ⟨_, h2⟩ := h
 rcases h2 with ⟨rfl, h0⟩ | ⟨g, cap, cur, rfl, _, hh, hn, _, hs, ht⟩
 ·
  exact ⟨none, 0, by rw [h0], fun k hk => by omega⟩
 refine ⟨_, cap, rfl, fun k hk => ⟨g, 0, rfl, Blk.lt (t := 49) hh, ?_, ?_⟩⟩
 ·
  obtain ⟨f1, _⟩ := flat_get ls k hk
  rw [← ht, List.getElem?_take_of_lt (by omega)] at f1
  rw [Nat.zero_add, Blk.cell (t := 49) hh, ← Array.getElem?_toList]
  exact f1
 obtain ⟨_, f2⟩ := flat_get ls k hk
 rw [← ht, List.getElem?_take_of_lt (by omega)] at f2
 rw [Nat.zero_add, Blk.cell (t := 49) hh, ← Array.getElem?_toList]
 exact f2
theorem name_ns {w : World} {base : Nat} {v : Value} {ns : List Nm} (h : w.ownsRow base 69 3 v ns.length (flatN ns)) : ∃ A c, v = .slice A ns.length c ∧ Ns w w.heap.size A ns ∧ ns.length ≤ c := by
 obtain ⟨_, h2⟩ := h
 rcases h2 with ⟨rfl, h0⟩ | ⟨g, cap, cur, rfl, _, hh, hn, _, hs, ht⟩
 ·
  exact ⟨none, 0, by rw [h0], fun k hk => by omega, by omega⟩
 refine ⟨_, cap, rfl, fun k hk => ⟨g, 0, rfl, Blk.lt (t := 69) hh, ?_, ?_, ?_⟩, hn⟩
 ·
  obtain ⟨f1, _⟩ := flatN_get ns k hk
  rw [← ht, List.getElem?_take_of_lt (by omega)] at f1
  rw [Nat.zero_add, Blk.cell (t := 69) hh, ← Array.getElem?_toList]
  exact f1
 ·
  obtain ⟨_, f2, _⟩ := flatN_get ns k hk
  rw [← ht, List.getElem?_take_of_lt (by omega)] at f2
  rw [Nat.zero_add, Blk.cell (t := 69) hh, ← Array.getElem?_toList]
  exact f2
 obtain ⟨_, _, f3⟩ := flatN_get ns k hk
 rw [← ht, List.getElem?_take_of_lt (by omega)] at f3
 rw [Nat.zero_add, Blk.cell (t := 69) hh, ← Array.getElem?_toList]
 exact f3
end Go.Proofs.YtpejilhdhkmcjaaGreatDoor
