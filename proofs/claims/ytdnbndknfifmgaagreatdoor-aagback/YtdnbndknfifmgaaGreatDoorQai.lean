/- The reference's Signal, Find, Is, After. -/
import Derived.Test.YtdnbndknfifmgaaGreatDoorQah
import Derived.Test.YtdnbndknfifmgaaGreatDoorQac
import Derived.ChangeMaps5
import Derived.Deep.Fields
namespace Go.Proofs.YtdnbndknfifmgaaGreatDoor
open Go.RowKit

end Go.Proofs.YtdnbndknfifmgaaGreatDoor
/- The reference's Find. -/
namespace Go.Proofs.YtdnbndknfifmgaaGreatDoor
open Go.RowKit

end Go.Proofs.YtdnbndknfifmgaaGreatDoor
/- same of layer 4: what the program tells of a circuit is what the document says. -/
namespace Go.Proofs.YtdnbndknfifmgaaGreatDoor
open Go.RowKit

end Go.Proofs.YtdnbndknfifmgaaGreatDoor
/- How a circuit that came in is opened. -/
namespace Go.Proofs.YtdnbndknfifmgaaGreatDoor
open Go.ChangeShapes Go.WideShapes Go.ChangeAt Go.RowKit Go.Deep Go.Joins Go.WideElems

/-- What is known of a circuit that came in. -/
structure CirO (c : Cir) : Prop where
  hn : I64 c.n
  hl : Wf c.ls
  hg : Wf c.gs
  ho : IWf c.os
  hb : IWf c.bs
  hc : IWf c.cs
  hf : IWf c.fs
  hk : ∀ x ∈ c.ns, (0 ≤ x.1 ∧ x.1 ≤ 255) ∧ I64 x.2.1 ∧ x.2.2.size ≤ maxLen
  ml : c.ls.length ≤ maxLen
  mg : c.gs.length ≤ maxLen
  lo : c.os.length ≤ maxLen
  lb : c.bs.length ≤ maxLen
  lc : c.cs.length ≤ maxLen
  lf : c.fs.length ≤ maxLen
  mn : c.ns.length ≤ maxLen
  cap : c.ns.length ≤ c.cN
section
variable {H : Type} {enc : TypeId × Value → H} {W : World} {base : Nat} {spare : Nat → Bool} {held : Bool}
end

namespace Cm
end Cm
end Go.Proofs.YtdnbndknfifmgaaGreatDoor
/- Made of layer 1, once more: its gates lie in new memory. -/
namespace Go.Proofs.YtdnbndknfifmgaaGreatDoor
open Go.RowKit

/-- What Made hands back. -/
def MadePost2 (n : Int) (w : World) (e : Ending) (w' : World) : Prop :=
  ∃ (A : Option Addr) (c : Nat) (gs : List (Int × Int)) (last : Int), e = .returned (.tuple #[.agg #[.int .i64 n, .slice A gs.length c], .int .i64 last]) ∧ Gr w' w'.heap.size A gs ∧ Good n gs 40 last ∧ Below w.heap.size w w' ∧ Sep 0 w.heap.size A
set_option maxRecDepth 100000 in
set_option maxHeartbeats 4000000 in
theorem made2_any (n : Int) (A0 : Option Addr) (c0 : Nat) (zs : List Int) (w : World) (h0 : 0 ≤ n) (h6 : n ≤ 6) (hm : zs.length ≤ maxLen) (hU : Us w w.heap.size A0 zs) :
    Calls Tryz.prog 35 #[.int .i64 n, .slice A0 zs.length c0] w (MadePost2 n w) := by
  unfold maxLen at hm
  have hst : MInv w ((w.alloc (Obj.cells #[Value.int .i64 0, .slice none 0 0] 64)).alloc (Obj.cells #[.int .i64 n, .slice none 0 0] 64)) n none 0 [] :=
    ⟨((Below.refl w.heap.size w).alloc (Nat.le_refl _) _).alloc (by simp) _, by go_simp, by go_simp, by go_simp, by go_simp, by go_simp, by go_simp, by go_simp, by go_simp, by simp, gr_nil, Sep.none_⟩
  have HST := Lib.hid hst
  clear hst
  go_enter Tryz.func35, Tryz.ntmps35
  go_wp2
  go_loopw [7, 8] (fun last i wr => MRel w n zs.length last i wr) (fun _ i _ => 40 - (intOf i).toNat)
  case atStart => exact ⟨0, none, 0, [], 1, Nat.zero_le _, by omega, rfl, rfl, Good.start h0 h6, HST.out⟩
  case round =>
    obtain ⟨k, A, c, gs, l, hk, hk4, rfl, rfl, hgood, hinv⟩ := hrel
    have d0 := hinv.d0
    have d1 := hinv.d1
    by_cases hlt : k < zs.length
    · by_cases hlt4 : k < 40
      · have hgl := hgood.few
        obtain ⟨b, off, hA, hbB, z1, z2, z3⟩ := (hU.below hinv.low (Nat.le_refl _)) k hlt
        subst hA
        generalize zs[k] = z at *
        go_wp2_with fail
        refine (refVars_any n A gs.length c wr h0 (by omega) (by omega)).mono ?_
        rintro e w1 ⟨rfl, hb1⟩
        have hi1 := hinv.below hb1
        have z1' := (hb1.cell (p := ⟨b, off + k, none⟩) (Nat.lt_of_lt_of_le hbB hinv.low.size)).trans z1
        have hix := ixU b off zs.length c0 k (by omega) hlt
        go_upto_region 7 with fail
        generalize hM : 2 * (n + 1 + (gs.length : Int)) = M at *
        have hM0 : 0 < M := by omega
        have hM1 : M ≤ 94 := by omega
        have hM2 : ¬ M = 0 := by omega
        have HM := Lib.hid hM
        clear hM z1 d0 d1
        have hd1 := Int.emod_nonneg z hM2
        have hd2 := Int.emod_lt_of_pos z hM0
        have hq0 : 0 ≤ z / M := Int.ediv_nonneg z2 (by omega)
        have hd3 := Int.emod_nonneg (z / M) hM2
        have hd4 := Int.emod_lt_of_pos (z / M) hM0
        have hgood' := hgood
        obtain ⟨hr, hfew, hwf, hlit⟩ := hgood'
        have hx : Gm.litB n gs.length (z % M) = true := lit_mk h0 (by omega) hd1 (by have := HM.out; omega)
        have hy : Gm.litB n gs.length (z / M % M) = true := lit_mk h0 (by omega) hd3 (by have := HM.out; omega)
        have hag := and_good hr hx hy (by omega)
        have haf := and_facts n gs (z % M) (z / M % M) hwf
        have HAND := Lib.hid (fun q => refAnd_any n A c gs (z % M) (z / M % M) (w1.drewN q) w1.heap.size (by omega) hi1.gr (Nat.le_refl _) hwf (by omega) (by omega))
        go_quiet (fail)
        generalize Gm.andS n gs (z % M) (z / M % M) = r at *
        obtain ⟨⟨n', gs'⟩, l', er⟩ := r
        obtain ⟨he, hi, hr', hlit', hgrow, _⟩ := hag
        simp only at he hi hr' hlit' hgrow
        subst he hi
        have hwf' : Wf gs' := haf.wf
        have d0 := hi1.d0
        have d1 := hi1.d1
        go_wp2_with fail
        refine (HAND.out nq).mono ?_
        rintro e w2 ⟨A', c', rfl, hG2, hsep2, hb2⟩
        have hi2 := (hi1.drewN nq).below hb2
        have hi3 := hi2.below ((Below.refl w2.heap.size w2).alloc (Nat.le_refl _) (Obj.cells #[.int .i64 n', .slice A' gs'.length c'] 64))
        have hk3 := Blk.new w2 64 #[.int .i64 n', .slice A' gs'.length c']
        have hG3 := (hG2.below ((Below.refl w2.heap.size w2).alloc (Nat.le_refl _) (Obj.cells #[.int .i64 n', .slice A' gs'.length c'] 64)) (Nat.le_refl _)).more (by simp : w2.heap.size ≤ (w2.alloc (Obj.cells #[.int .i64 n', .slice A' gs'.length c'] 64)).heap.size)
        have hsp : Sep 0 (w.heap.size + 2) A' := by
          rcases hsep2 with ⟨rfl, _⟩ | h
          · exact hinv.sep
          · exact h.mono (Nat.le_refl _) hi1.sz
        have z1'' : (w2.alloc (Obj.cells #[.int .i64 n', .slice A' gs'.length c'] 64)).cell? ⟨b, off + k, none⟩ = some (.int .u16 z) :=
          (World.cell?_alloc_lt w2 _ ⟨b, off + k, none⟩ (Nat.lt_of_lt_of_le (Nat.lt_of_lt_of_le hbB hi1.low.size) hb2.size)).trans ((hb2.cell (p := ⟨b, off + k, none⟩) (Nat.lt_of_lt_of_le hbB hi1.low.size)).trans z1')
        have q0 := hk3.cell 0
        have q1 := hk3.cell 1
        simp only [List.getElem?_toArray, List.getElem?_cons_zero, List.getElem?_cons_succ] at q0 q1
        have hlt3 : w.heap.size + 1 < w2.heap.size := hi2.sz
        clear d0 d1 z1'
        go_upto_region 10 with fail
        generalize w2.alloc (Obj.cells #[.int .i64 n', .slice A' gs'.length c'] 64) = V at *
        have d0 := hi3.d0
        have d1 := hi3.d1
        have g0 := hi3.g0
        have g1 := hi3.g1
        go_region
        go_wp2
        have hl4 : l' ≤ 4000 := haf.lit1
        have hgd : Good n' gs' (k + 1) (bits .xor .i64 l' (z / 7 % 2)) := ⟨hr', by omega, hwf', xor_lit hlit' (by omega) (by omega)⟩
        have hfin : MInv w ((V.setCell ⟨w.heap.size + 1, 0, none⟩ (.int .i64 n')).setCell ⟨w.heap.size + 1, 1, none⟩ (.slice A' gs'.length c')).drew n' A' c' gs' := (hi3.put hG3 hsp).drew
        exact ⟨⟨k + 1, A', c', gs', _, by omega, by omega, by go_num, rfl, hgd, hfin⟩, by simp [intOf]; omega⟩
      · have hd : decide ((k : Int) < 40) = false := by simp; omega
        have e0 := hinv.e0
        have e1 := hinv.e1
        have f0 := hinv.f0
        have f1 := hinv.f1
        go_wp2
        obtain ⟨hlo, r0, r1, hGf⟩ := made_close hinv
        exact bodyPost_ret (v := .tuple #[.agg #[.int .i64 n, .slice A gs.length c], .int .i64 l]) (by simp [results, Tryz.results35, go_sem, r0, r1]) rfl ⟨A, c, gs, l, rfl, hGf, ⟨hgood.right, Nat.le_trans hgood.few hk4, hgood.wf, hgood.lit⟩, hlo, hinv.sep.mono (Nat.le_refl _) (by omega)⟩
    · have hd : decide ((k : Int) < (zs.length : Int)) = false := by simp; omega
      have e0 := hinv.e0
      have e1 := hinv.e1
      have f0 := hinv.f0
      have f1 := hinv.f1
      go_wp2
      obtain ⟨hlo, r0, r1, hGf⟩ := made_close hinv
      exact bodyPost_ret (v := .tuple #[.agg #[.int .i64 n, .slice A gs.length c], .int .i64 l]) (by simp [results, Tryz.results35, go_sem, r0, r1]) rfl ⟨A, c, gs, l, rfl, hGf, ⟨hgood.right, Nat.le_trans hgood.few hk4, hgood.wf, hgood.lit⟩, hlo, hinv.sep.mono (Nat.le_refl _) (by omega)⟩
end Go.Proofs.YtdnbndknfifmgaaGreatDoor
/- pick, of Made of layer 4. -/
namespace Go.Proofs.YtdnbndknfifmgaaGreatDoor
open Go.RowKit

namespace Cm
/-- The number at a place, below n; 0 where there is none. -/
def pickS (zs : List Int) (a : Nat) (n : Int) : Int := if a < zs.length then zs.getD a 0 % n else 0
theorem pick_lt (zs : List Int) (a : Nat) (n : Int) (hn : 0 < n) : 0 ≤ pickS zs a n ∧ pickS zs a n < n := by
  unfold pickS
  split
  · exact ⟨Int.emod_nonneg _ (by omega), Int.emod_lt_of_pos _ hn⟩
  · omega
end Cm
theorem Us.set {w : World} {B : Nat} {A : Option Addr} {zs : List Int} (h : Us w B A zs) {p : Addr} (hp : B ≤ p.block) (u : Value) : Us (w.setCell p u) B A zs := by
  intro k hk
  obtain ⟨b, off, rfl, hlt, h1, h2⟩ := h k hk
  exact ⟨b, off, rfl, hlt, (World.cell?_setCell_other _ _ _ _ (fun e => by have := congrArg Addr.block e; simp at this; omega)).trans h1, h2⟩

set_option maxRecDepth 100000 in
set_option maxHeartbeats 2000000 in
theorem pick_any (ab lb : Nat) (A : Option Addr) (c : Nat) (zs : List Int) (a : Nat) (n : Int) (w : World) (B : Nat) (hB : B ≤ ab) (hU : Us w B A zs) (hlen : zs.length ≤ maxLen) (ha : a ≤ 100000) (hn : 0 < n) (hn1 : n ≤ 65536) (hne : lb ≠ ab)
    (h0 : w.cell? ⟨ab, 0, none⟩ = some (.int .i64 (a : Int))) (hf : w.frozen? ⟨ab, 0, none⟩ = false) (h1 : w.cell? ⟨lb, 0, none⟩ = some (.slice A zs.length c)) :
    Calls Tryz.prog 34 #[.int .i64 n, .pointer (some ⟨ab, 0, none⟩), .pointer (some ⟨lb, 0, none⟩)] w fun e w' => e = .returned (.int .i64 (Cm.pickS zs a n)) ∧ w.setCell ⟨ab, 0, none⟩ (.int .i64 ((a : Int) + 1)) = w' := by
  unfold maxLen at hlen
  have hset : (w.setCell ⟨ab, 0, none⟩ (.int .i64 ((a : Int) + 1))).cell? ⟨ab, 0, none⟩ = some (.int .i64 ((a : Int) + 1)) := World.cell?_setCell_same _ _ _ h0
  have hset1 : (w.setCell ⟨ab, 0, none⟩ (.int .i64 ((a : Int) + 1))).cell? ⟨lb, 0, none⟩ = some (.slice A zs.length c) := (World.cell?_setCell_other _ _ _ _ (fun e => hne (by have := congrArg Addr.block e; simpa using this.symm))).trans h1
  have hU2 := hU.set (p := ⟨ab, 0, none⟩) hB (.int .i64 ((a : Int) + 1))
  by_cases hlt : a < zs.length
  · obtain ⟨b, off, hA, hbB, z1, z2, z3⟩ := hU2 a hlt
    have HP : Hid (Cm.pickS zs a n = zs[a] % n) := by
      unfold Hid Cm.pickS
      rw [if_pos hlt]
      simp [List.getD_eq_getElem?_getD, List.getElem?_eq_getElem hlt]
    generalize Cm.pickS zs a n = y at *
    generalize zs[a] = z at *
    subst hA
    have hix := ixU b off zs.length c a (by omega) hlt
    have hd : decide ((zs.length : Int) < (a : Int) + 1) = false := decide_eq_false (by omega)
    go_enter Tryz.func34, Tryz.ntmps34
    go_upto_region 2 with fail
    generalize hVe : w.setCell ⟨ab, 0, none⟩ (.int .i64 ((a : Int) + 1)) = V at *
    have HV := Lib.hid hVe
    clear h0 h1 hf hVe
    go_wp2
    go_ret
    exact ⟨by rw [HP.out]; rfl, HV.out⟩
  · have HP : Hid (Cm.pickS zs a n = 0) := by
      unfold Hid Cm.pickS
      rw [if_neg hlt]
    generalize Cm.pickS zs a n = y at *
    have hd : decide ((zs.length : Int) < (a : Int) + 1) = true := decide_eq_true (by omega)
    go_enter Tryz.func34, Tryz.ntmps34
    go_upto_region 2 with fail
    generalize hVe : w.setCell ⟨ab, 0, none⟩ (.int .i64 ((a : Int) + 1)) = V at *
    have HV := Lib.hid hVe
    clear h0 h1 hf hVe
    go_wp2
    go_ret
    exact ⟨by rw [HP.out]; rfl, HV.out⟩
end Go.Proofs.YtdnbndknfifmgaaGreatDoor
/- Rows of one list's elements that the call itself makes, one element more at a time: numbers, latches, names. -/
namespace Go.Proofs.YtdnbndknfifmgaaGreatDoor
open Go.RowKit

theorem app_own (w : World) (base : Nat) (t ty e : TypeId) (i : TypeInfo) (z : Value) (size bytes : Nat) (ht : Tryz.prog.underlying t = some (.slice e)) (hi : Tryz.prog.info? e = some i) (hz : i.zero = some z)
    (hsize : i.size = size) (hby : i.bytes = bytes) (hb : bytes ≤ 64) (hzs : z.cells.size = size) (hsz : 0 < size) (v : Value) (n : Nat) (xs : List Value) (hown : w.ownsRow base e size v n xs)
    (b c : Nat) (cs : List Value) (hbk : Blk w b e cs.toArray) (hl : cs.length = size) (h1 : ∀ u ∈ cs, u.oneCell' = true) (hn : n ≤ 100000) (hbase : base ≤ w.heap.size) :
    ∃ v' w', (Builtin.append_ #[t, t] ty #[v, .slice (some ⟨b, 0, none⟩) 1 c]).run Tryz.prog w = .ok v' w' ∧ w'.ownsRow base e size v' (n + 1) (xs ++ cs) ∧ w.grownBy w' v.ownBlock ∧ (v'.ownBlock = v.ownBlock ∨ v'.ownBlock = some w.heap.size) := by
  have hcell : ∀ j u, cs[j]? = some u → w.cell? ((⟨b, 0, none⟩ : Addr).add j) = some u := by
    intro j u hj
    have ha : (⟨b, 0, none⟩ : Addr).add j = ⟨b, j, none⟩ := by
      simp [Addr.add]
      exact fun h => h.symm
    rw [ha, hbk.cell j]
    simpa using hj
  have hbb : (n + 1) * bytes ≤ 140737488355328 := by
    have h := Nat.mul_le_mul (show n + 1 ≤ 100001 by omega) hb
    omega
  obtain ⟨v', w', r1, r2, r3, _, r5⟩ := run_append_own_at (P := Tryz.prog) w base t ty e i z size bytes ht hi hz hsize hby hzs hsz v n xs hown ⟨b, 0, none⟩ 1 c cs (by rw [hl, Nat.one_mul]) hcell h1 (by unfold maxLen; omega) hbb hbase
  exact ⟨v', w', r1, r2, r3, r5⟩
theorem app_u16 (w : World) (base : Nat) (ty : TypeId) (v : Value) (n : Nat) (xs : List Value) (hown : w.ownsRow base 40 1 v n xs) (b c : Nat) (x : Int) (hbk : Blk w b 40 #[.int .u16 x]) (hn : n ≤ 100000) (hbase : base ≤ w.heap.size) :
    ∃ v' w', (Builtin.append_ #[34, 34] ty #[v, .slice (some ⟨b, 0, none⟩) 1 c]).run Tryz.prog w = .ok v' w' ∧ w'.ownsRow base 40 1 v' (n + 1) (xs ++ [.int .u16 x]) ∧ w.grownBy w' v.ownBlock ∧ (v'.ownBlock = v.ownBlock ∨ v'.ownBlock = some w.heap.size) :=
  app_own w base 34 ty 40 Tryz.t40 (.int .u16 0) 1 2 Tryz.underlying34 (by kernel_rfl) (by kernel_rfl) (by kernel_rfl) (by kernel_rfl) (by omega) (by kernel_rfl) (by omega) v n xs hown b c [.int .u16 x] hbk rfl (fun u hu => by simp at hu; subst hu; rfl) hn hbase
theorem app_int (w : World) (base : Nat) (ty : TypeId) (v : Value) (n : Nat) (xs : List Value) (hown : w.ownsRow base 3 1 v n xs) (b c : Nat) (x : Int) (hbk : Blk w b 3 #[.int .i64 x]) (hn : n ≤ 100000) (hbase : base ≤ w.heap.size) :
    ∃ v' w', (Builtin.append_ #[26, 26] ty #[v, .slice (some ⟨b, 0, none⟩) 1 c]).run Tryz.prog w = .ok v' w' ∧ w'.ownsRow base 3 1 v' (n + 1) (xs ++ [.int .i64 x]) ∧ w.grownBy w' v.ownBlock ∧ (v'.ownBlock = v.ownBlock ∨ v'.ownBlock = some w.heap.size) :=
  app_own w base 26 ty 3 Tryz.t3 (.int .i64 0) 1 8 Tryz.underlying26 (by kernel_rfl) (by kernel_rfl) (by kernel_rfl) (by kernel_rfl) (by omega) (by kernel_rfl) (by omega) v n xs hown b c [.int .i64 x] hbk rfl (fun u hu => by simp at hu; subst hu; rfl) hn hbase
theorem app_latch (w : World) (base : Nat) (ty : TypeId) (v : Value) (n : Nat) (xs : List Value) (hown : w.ownsRow base 49 2 v n xs) (b c : Nat) (x y : Int) (hbk : Blk w b 49 #[.int .i64 x, .int .i64 y]) (hn : n ≤ 100000) (hbase : base ≤ w.heap.size) :
    ∃ v' w', (Builtin.append_ #[24, 24] ty #[v, .slice (some ⟨b, 0, none⟩) 1 c]).run Tryz.prog w = .ok v' w' ∧ w'.ownsRow base 49 2 v' (n + 1) (xs ++ [.int .i64 x, .int .i64 y]) ∧ w.grownBy w' v.ownBlock ∧ (v'.ownBlock = v.ownBlock ∨ v'.ownBlock = some w.heap.size) :=
  app_own w base 24 ty 49 Tryz.t49 (.agg #[.int .i64 0, .int .i64 0]) 2 16 Tryz.underlying24 (by kernel_rfl) (by kernel_rfl) (by kernel_rfl) (by kernel_rfl) (by omega) (by kernel_rfl) (by omega) v n xs hown b c [.int .i64 x, .int .i64 y] hbk rfl (fun u hu => by simp at hu; rcases hu with rfl | rfl <;> rfl) hn hbase
theorem app_name (w : World) (base : Nat) (ty : TypeId) (v : Value) (n : Nat) (xs : List Value) (hown : w.ownsRow base 69 3 v n xs) (b c : Nat) (k x : Int) (s : ByteArray) (hbk : Blk w b 69 #[.int .u8 k, .int .i64 x, .string s]) (hn : n ≤ 100000) (hbase : base ≤ w.heap.size) :
    ∃ v' w', (Builtin.append_ #[27, 27] ty #[v, .slice (some ⟨b, 0, none⟩) 1 c]).run Tryz.prog w = .ok v' w' ∧ w'.ownsRow base 69 3 v' (n + 1) (xs ++ [.int .u8 k, .int .i64 x, .string s]) ∧ w.grownBy w' v.ownBlock ∧ (v'.ownBlock = v.ownBlock ∨ v'.ownBlock = some w.heap.size) :=
  app_own w base 27 ty 69 Tryz.t69 (.agg #[.int .u8 0, .int .i64 0, .string ⟨#[]⟩]) 3 32 Tryz.underlying27 (by kernel_rfl) (by kernel_rfl) (by kernel_rfl) (by kernel_rfl) (by omega) (by kernel_rfl) (by omega) v n xs hown b c [.int .u8 k, .int .i64 x, .string s] hbk rfl (fun u hu => by simp at hu; rcases hu with rfl | rfl | rfl <;> rfl) hn hbase

/-- The cells of names. -/
def flatN : List Nm → List Value
  | [] => []
  | x :: r => .int .u8 x.1 :: .int .i64 x.2.1 :: .string x.2.2 :: flatN r
theorem flatN_append (ns ms : List Nm) : flatN (ns ++ ms) = flatN ns ++ flatN ms := by
  induction ns with
  | nil => rfl
  | cons g r ih => simp [flatN, ih]
theorem flatN_get (ns : List Nm) (k : Nat) (h : k < ns.length) : (flatN ns)[k * 3]? = some (.int .u8 (ns[k]).1) ∧ (flatN ns)[k * 3 + 1]? = some (.int .i64 (ns[k]).2.1) ∧ (flatN ns)[k * 3 + 2]? = some (.string (ns[k]).2.2) := by
  induction ns generalizing k with
  | nil => simp at h
  | cons g r ih =>
    cases k with
    | zero => simp [flatN]
    | succ k =>
      have := ih k (by simpa using h)
      rw [show (k + 1) * 3 = k * 3 + 1 + 1 + 1 by omega]
      simpa [flatN] using this
/-- A row of the call's own, as its list. -/
theorem latch_gr {w : World} {base : Nat} {v : Value} {ls : List (Int × Int)} (h : w.ownsRow base 49 2 v ls.length (flat ls)) : ∃ A c, v = .slice A ls.length c ∧ Gr w w.heap.size A ls := by
  obtain ⟨_, h2⟩ := h
  rcases h2 with ⟨rfl, h0⟩ | ⟨g, cap, cur, rfl, _, hh, hn, _, hs, ht⟩
  · exact ⟨none, 0, by rw [h0], fun k hk => by omega⟩
  · refine ⟨_, cap, rfl, fun k hk => ⟨g, 0, rfl, Blk.lt (t := 49) hh, ?_, ?_⟩⟩
    · obtain ⟨f1, _⟩ := flat_get ls k hk
      rw [← ht, List.getElem?_take_of_lt (by omega)] at f1
      rw [Nat.zero_add, Blk.cell (t := 49) hh, ← Array.getElem?_toList]
      exact f1
    · obtain ⟨_, f2⟩ := flat_get ls k hk
      rw [← ht, List.getElem?_take_of_lt (by omega)] at f2
      rw [Nat.zero_add, Blk.cell (t := 49) hh, ← Array.getElem?_toList]
      exact f2
theorem name_ns {w : World} {base : Nat} {v : Value} {ns : List Nm} (h : w.ownsRow base 69 3 v ns.length (flatN ns)) : ∃ A c, v = .slice A ns.length c ∧ Ns w w.heap.size A ns ∧ ns.length ≤ c := by
  obtain ⟨_, h2⟩ := h
  rcases h2 with ⟨rfl, h0⟩ | ⟨g, cap, cur, rfl, _, hh, hn, _, hs, ht⟩
  · exact ⟨none, 0, by rw [h0], fun k hk => by omega, by omega⟩
  · refine ⟨_, cap, rfl, fun k hk => ⟨g, 0, rfl, Blk.lt (t := 69) hh, ?_, ?_, ?_⟩, hn⟩
    · obtain ⟨f1, _⟩ := flatN_get ns k hk
      rw [← ht, List.getElem?_take_of_lt (by omega)] at f1
      rw [Nat.zero_add, Blk.cell (t := 69) hh, ← Array.getElem?_toList]
      exact f1
    · obtain ⟨_, f2, _⟩ := flatN_get ns k hk
      rw [← ht, List.getElem?_take_of_lt (by omega)] at f2
      rw [Nat.zero_add, Blk.cell (t := 69) hh, ← Array.getElem?_toList]
      exact f2
    · obtain ⟨_, _, f3⟩ := flatN_get ns k hk
      rw [← ht, List.getElem?_take_of_lt (by omega)] at f3
      rw [Nat.zero_add, Blk.cell (t := 69) hh, ← Array.getElem?_toList]
      exact f3
end Go.Proofs.YtdnbndknfifmgaaGreatDoor
/- What Made of layer 4 keeps in its boxes; append as a step. -/
namespace Go.Proofs.YtdnbndknfifmgaaGreatDoor
open Go.RowKit

theorem wpList_app {ops : Array Oper} {rest : List Oper} {o : Oper} {a : Act} {Q : Exit → Act → World → Prop} {w : World} (hgd : o.guard = none) (s x : Operand) (t : TypeId)
    (ho : o.op = .call { callee := .builtin .append, args := #[s, x], argTypes := #[t, t] }) (v arg : Value) (hs1 : a.eval s = v) (hx : a.eval x = arg) (R : Value → World → Prop)
    (hrun : ∀ ty, ∃ v' w', (Builtin.append_ #[t, t] ty #[v, arg]).run Tryz.prog w = .ok v' w' ∧ R v' w')
    (h : ∀ v' w', R v' w' → wpList Tryz.prog ops Q rest (a.put o.dst v') w') : wpList Tryz.prog ops Q (o :: rest) a w := by
  refine wpList_plain hgd fun K hK => ?_
  obtain ⟨v', w', hr, hR⟩ := hrun o.type
  unfold Oper.wp execOp
  simp only [ho, resolve, invoke, builtin, Sem.run_bind, Sem.run_pure, Result.andThen_ok, List.map_toArray, List.map_cons, List.map_nil, hs1, hx, hr]
  exact hK _ _ (h v' w' hR)
theorem oper_app {o : Oper} {a : Act} {K : Act → World → Prop} {Q : Exit → Act → World → Prop} {w : World} (s x : Operand) (t : TypeId)
    (ho : o.op = .call { callee := .builtin .append, args := #[s, x], argTypes := #[t, t] }) (v arg : Value) (hs1 : a.eval s = v) (hx : a.eval x = arg) (R : Value → World → Prop)
    (hrun : ∀ ty, ∃ v' w', (Builtin.append_ #[t, t] ty #[v, arg]).run Tryz.prog w = .ok v' w' ∧ R v' w')
    (h : ∀ v' w', R v' w' → K (a.put o.dst v') w') : Oper.wp Tryz.prog o a w K Q := by
  obtain ⟨v', w', hr, hR⟩ := hrun o.type
  unfold Oper.wp execOp
  simp only [ho, resolve, invoke, builtin, Sem.run_bind, Sem.run_pure, Result.andThen_ok, List.map_toArray, List.map_cons, List.map_nil, hs1, hx, hr]
  exact h v' w' hR

/-- The boxes of Made: its argument (block hL), the result's (hR), the place (hA), the circuit's (hC). -/
structure MB (w wr : World) (hL hR hA hC : Nat) (A0 : Option Addr) (c0 : Nat) (zs : List Int) (a : Nat) (x0 x1 x2 x3 x4 x5 x6 x7 : Value) : Prop where
  eL : hL = w.heap.size
  eR : hR = w.heap.size + 1
  eA : hA = w.heap.size + 2
  eC : hC = w.heap.size + 3
  low : Below w.heap.size w wr
  lb : Blk wr hL 34 #[.slice A0 zs.length c0]
  rb : Blk wr hR 29 #[.int .i64 0, .slice none 0 0, .slice none 0 0, .slice none 0 0, .slice none 0 0, .slice none 0 0, .slice none 0 0, .slice none 0 0]
  ab : Blk wr hA 3 #[.int .i64 (a : Int)]
  cb : Blk wr hC 29 #[x0, x1, x2, x3, x4, x5, x6, x7]
section
variable {w wr wn : World} {hL hR hA hC : Nat} {A0 : Option Addr} {c0 : Nat} {zs : List Int} {a : Nat} {x0 x1 x2 x3 x4 x5 x6 x7 : Value}
theorem MB.size (h : MB w wr hL hR hA hC A0 c0 zs a x0 x1 x2 x3 x4 x5 x6 x7) : w.heap.size + 4 ≤ wr.heap.size := by have := h.cb.lt; have := h.eC; omega
theorem MB.grown (h : MB w wr hL hR hA hC A0 c0 zs a x0 x1 x2 x3 x4 x5 x6 x7) {row : Option Nat} (hg : wr.grownBy wn row) (hr : ∀ k, row = some k → w.heap.size + 4 ≤ k) : MB w wn hL hR hA hC A0 c0 zs a x0 x1 x2 x3 x4 x5 x6 x7 := by
  have e1 := h.eL
  have e2 := h.eR
  have e3 := h.eA
  have e4 := h.eC
  exact ⟨e1, e2, e3, e4, h.low.grown hg h.low.size (fun k e => by have := hr k e; omega), h.lb.grown hg (fun e => by have := hr _ e.symm; omega), h.rb.grown hg (fun e => by have := hr _ e.symm; omega), h.ab.grown hg (fun e => by have := hr _ e.symm; omega), h.cb.grown hg (fun e => by have := hr _ e.symm; omega)⟩
theorem MB.below (h : MB w wr hL hR hA hC A0 c0 zs a x0 x1 x2 x3 x4 x5 x6 x7) (hb : Below wr.heap.size wr wn) : MB w wn hL hR hA hC A0 c0 zs a x0 x1 x2 x3 x4 x5 x6 x7 :=
  ⟨h.eL, h.eR, h.eA, h.eC, h.low.trans (hb.mono h.low.size), h.lb.below hb h.lb.lt, h.rb.below hb h.rb.lt, h.ab.below hb h.ab.lt, h.cb.below hb h.cb.lt⟩
theorem MB.alloc (h : MB w wr hL hR hA hC A0 c0 zs a x0 x1 x2 x3 x4 x5 x6 x7) (o : Obj) : MB w (wr.alloc o) hL hR hA hC A0 c0 zs a x0 x1 x2 x3 x4 x5 x6 x7 := h.below (lowAlloc wr o)
theorem MB.drew (h : MB w wr hL hR hA hC A0 c0 zs a x0 x1 x2 x3 x4 x5 x6 x7) : MB w wr.drew hL hR hA hC A0 c0 zs a x0 x1 x2 x3 x4 x5 x6 x7 := ⟨h.eL, h.eR, h.eA, h.eC, h.low.drew, h.lb, h.rb, h.ab, h.cb⟩
theorem MB.pick (h : MB w wr hL hR hA hC A0 c0 zs a x0 x1 x2 x3 x4 x5 x6 x7) : MB w (wr.setCell ⟨hA, 0, none⟩ (.int .i64 ((a : Int) + 1))) hL hR hA hC A0 c0 zs (a + 1) x0 x1 x2 x3 x4 x5 x6 x7 := by
  have e1 := h.eL
  have e2 := h.eR
  have e3 := h.eA
  have e4 := h.eC
  refine ⟨e1, e2, e3, e4, h.low.setCell (by simp; omega) _, h.lb.far (by simp; omega) _, h.rb.far (by simp; omega) _, ?_, h.cb.far (by simp; omega) _⟩
  have := h.ab.put 0 (.int .i64 ((a : Int) + 1))
  simpa using this
/-- The field at a place of the circuit's box is written. -/
theorem MB.put (h : MB w wr hL hR hA hC A0 c0 zs a x0 x1 x2 x3 x4 x5 x6 x7) (i : Nat) (u : Value) {y0 y1 y2 y3 y4 y5 y6 y7 : Value} (he : (#[x0, x1, x2, x3, x4, x5, x6, x7] : Array Value).setIfInBounds i u = #[y0, y1, y2, y3, y4, y5, y6, y7]) :
    MB w (wr.setCell ⟨hC, i, none⟩ u) hL hR hA hC A0 c0 zs a y0 y1 y2 y3 y4 y5 y6 y7 := by
  have e1 := h.eL
  have e2 := h.eR
  have e3 := h.eA
  have e4 := h.eC
  refine ⟨e1, e2, e3, e4, h.low.setCell (by simp; omega) _, h.lb.far (by simp; omega) _, h.rb.far (by simp; omega) _, h.ab.far (by simp; omega) _, ?_⟩
  have := h.cb.put i u
  rwa [he] at this
/-- pick: what it answers, and that only the place has turned. -/
theorem MB.call (h : MB w wr hL hR hA hC A0 c0 zs a x0 x1 x2 x3 x4 x5 x6 x7) (hU : Us w w.heap.size A0 zs) (hlen : zs.length ≤ maxLen) (ha : a ≤ 100000) (n : Int) (hn : 0 < n) (hn1 : n ≤ 65536) :
    Calls Tryz.prog 34 #[.int .i64 n, .pointer (some ⟨hA, 0, none⟩), .pointer (some ⟨hL, 0, none⟩)] wr fun e w' => e = .returned (.int .i64 (Cm.pickS zs a n)) ∧ MB w w' hL hR hA hC A0 c0 zs (a + 1) x0 x1 x2 x3 x4 x5 x6 x7 ∧ wr.setCell ⟨hA, 0, none⟩ (.int .i64 ((a : Int) + 1)) = w' := by
  have e1 := h.eL
  have e2 := h.eR
  have e3 := h.eA
  have e4 := h.eC
  refine (pick_any hA hL A0 c0 zs a n wr w.heap.size (by omega) (hU.below h.low (Nat.le_refl _)) hlen ha hn hn1 (by omega) (by simpa using h.ab.cell 0) (h.ab.frozen 0) (by simpa using h.lb.cell 0)).mono ?_
  rintro e w' ⟨r1, r2⟩
  exact ⟨r1, r2 ▸ h.pick, r2⟩
end
/-- A row of the call's own stays, whatever is written elsewhere below it. -/
theorem row_set {w : World} {base : Nat} {e : TypeId} {size : Nat} {v : Value} {n : Nat} {xs : List Value} (h : w.ownsRow base e size v n xs) {p : Addr} (hp : p.block < base) (u : Value) : (w.setCell p u).ownsRow base e size v n xs := by
  obtain ⟨h1, h2⟩ := h
  refine ⟨h1, ?_⟩
  rcases h2 with h2 | ⟨g, cap, cur, rfl, hb, hh, r⟩
  · exact Or.inl h2
  · exact Or.inr ⟨g, cap, cur, rfl, hb, (Below.heap_setCell w p u g (by omega)).trans hh, r⟩
theorem row_slice {w : World} {base : Nat} {e : TypeId} {size : Nat} {v : Value} {n : Nat} {xs : List Value} (h : w.ownsRow base e size v n xs) : ∃ A c, v = .slice A n c := by
  rcases h.2 with ⟨rfl, h0⟩ | ⟨g, cap, cur, rfl, _⟩
  · exact ⟨none, 0, by rw [h0]⟩
  · exact ⟨_, _, rfl⟩
theorem row_base {w : World} {base : Nat} {e : TypeId} {size : Nat} {v : Value} {n : Nat} {xs : List Value} (h : w.ownsRow base e size v n xs) : ∀ k, v.ownBlock = some k → base ≤ k := by
  intro k hk
  rcases h.2 with ⟨rfl, _⟩ | ⟨g, cap, cur, rfl, hb, _⟩
  · cases hk
  · simp [Value.ownBlock] at hk
    omega
end Go.Proofs.YtdnbndknfifmgaaGreatDoor
/- What stays beside the boxes of Made. -/
namespace Go.Proofs.YtdnbndknfifmgaaGreatDoor
open Go.RowKit

/-- From W to W' the blocks below B are kept, but for the four boxes from lo on. -/
structure Out (B lo : Nat) (W W' : World) : Prop where
  le : B ≤ W'.heap.size
  blk : ∀ b, b < B → (b < lo ∨ lo + 4 ≤ b) → W'.heap[b]? = W.heap[b]?
theorem Out.refl (W : World) (lo : Nat) : Out W.heap.size lo W W := ⟨Nat.le_refl _, fun _ _ _ => rfl⟩
theorem Out.drew {B lo : Nat} {W W' : World} (h : Out B lo W W') : Out B lo W W'.drew := ⟨h.le, h.blk⟩
theorem Out.drewN {B lo : Nat} {W W' : World} (h : Out B lo W W') (n : Nat) : Out B lo W (W'.drewN n) := ⟨h.le, h.blk⟩
theorem Out.alloc {B lo : Nat} {W W' : World} (h : Out B lo W W') (o : Obj) : Out B lo W (W'.alloc o) :=
  ⟨by simp; have := h.le; omega, fun b hb hl => (Below.heap_alloc W' o b (Nat.lt_of_lt_of_le hb h.le)).trans (h.blk b hb hl)⟩
theorem Out.set {B lo : Nat} {W W' : World} (h : Out B lo W W') {p : Addr} (h1 : lo ≤ p.block) (h2 : p.block < lo + 4) (u : Value) : Out B lo W (W'.setCell p u) :=
  ⟨by simp; exact h.le, fun b hb hl => (Below.heap_setCell W' p u b (by omega)).trans (h.blk b hb hl)⟩
theorem Out.grown {B lo : Nat} {W W' V : World} (h : Out B lo W W') {row : Option Nat} (hg : W'.grownBy V row) (hr : ∀ k, row = some k → B ≤ k) : Out B lo W V :=
  ⟨Nat.le_trans h.le hg.size, fun b hb hl => (hg.block b (Nat.lt_of_lt_of_le hb h.le) (fun e => by have := hr _ e.symm; omega)).trans (h.blk b hb hl)⟩
theorem Out.below {B lo : Nat} {W W' V : World} (h : Out B lo W W') (hb : Below W'.heap.size W' V) : Out B lo W V :=
  ⟨Nat.le_trans h.le hb.size, fun b h1 hl => (hb.block b (Nat.lt_of_lt_of_le h1 h.le)).trans (h.blk b h1 hl)⟩
theorem Out.trans {B C lo : Nat} {W W' V : World} (h : Out B lo W W') (k : Out C lo W' V) (hB : B ≤ C) : Out B lo W V :=
  ⟨Nat.le_trans hB k.le, fun b h1 hl => (k.blk b (Nat.lt_of_lt_of_le h1 hB) hl).trans (h.blk b h1 hl)⟩
/-- The slice lies beside the boxes. -/
def Off (lo : Nat) (A : Option Addr) : Prop := ∀ ad, A = some ad → ad.block < lo ∨ lo + 4 ≤ ad.block
theorem Gr.out {B lo : Nat} {W W' : World} {A : Option Addr} {gs : List (Int × Int)} (h : Gr W B A gs) (ho : Off lo A) (k : Out B lo W W') : Gr W' B A gs := by
  intro i hi
  obtain ⟨b, off, rfl, hb, h1, h2⟩ := h i hi
  have hk := k.blk b hb (ho _ rfl)
  exact ⟨b, off, rfl, hb, (World.cell?_of_block (w := W) (a := ⟨b, _, none⟩) hk).trans h1, (World.cell?_of_block (w := W) (a := ⟨b, _, none⟩) hk).trans h2⟩
theorem Vs.out {B lo : Nat} {W W' : World} {A : Option Addr} {vs : List Value} (h : Vs W B A vs) (ho : Off lo A) (k : Out B lo W W') : Vs W' B A vs := by
  intro i hi
  obtain ⟨b, off, rfl, hb, h1⟩ := h i hi
  have hk := k.blk b hb (ho _ rfl)
  exact ⟨b, off, rfl, hb, (World.cell?_of_block (w := W) (a := ⟨b, _, none⟩) hk).trans h1⟩
theorem Ns.out {B lo : Nat} {W W' : World} {A : Option Addr} {ns : List Nm} (h : Ns W B A ns) (ho : Off lo A) (k : Out B lo W W') : Ns W' B A ns := by
  intro i hi
  obtain ⟨b, off, rfl, hb, h1, h2, h3⟩ := h i hi
  have hk := k.blk b hb (ho _ rfl)
  exact ⟨b, off, rfl, hb, (World.cell?_of_block (w := W) (a := ⟨b, _, none⟩) hk).trans h1, (World.cell?_of_block (w := W) (a := ⟨b, _, none⟩) hk).trans h2, (World.cell?_of_block (w := W) (a := ⟨b, _, none⟩) hk).trans h3⟩
theorem int_vs {w : World} {base : Nat} {v : Value} {zs : List Int} (h : w.ownsRow base 3 1 v zs.length (iv zs)) : ∃ A c, v = .slice A zs.length c ∧ Vs w w.heap.size A (iv zs) := by
  obtain ⟨_, h2⟩ := h
  rcases h2 with ⟨rfl, h0⟩ | ⟨g, cap, cur, rfl, _, hh, hn, _, hs, ht⟩
  · refine ⟨none, 0, by rw [h0], fun k hk => ?_⟩
    have : zs.length = 0 := h0
    simp [iv] at hk
    omega
  · refine ⟨_, cap, rfl, fun k hk => ⟨g, 0, rfl, Blk.lt (t := 3) hh, ?_⟩⟩
    have hk' : k < zs.length := by simpa [iv] using hk
    have f1 : (iv zs)[k]? = some (iv zs)[k] := List.getElem?_eq_getElem hk
    generalize (iv zs)[k] = y at *
    rw [← ht, List.getElem?_take_of_lt (by omega)] at f1
    rw [Nat.zero_add, Blk.cell (t := 3) hh, ← Array.getElem?_toList]
    exact f1
end Go.Proofs.YtdnbndknfifmgaaGreatDoor
/- Lists that are finished, while Made goes on. -/
namespace Go.Proofs.YtdnbndknfifmgaaGreatDoor
open Go.RowKit

theorem Out.self {B lo : Nat} {W : World} (h : B ≤ W.heap.size) : Out B lo W W := ⟨h, fun _ _ _ => rfl⟩
theorem Out.less {B C lo : Nat} {W W' : World} (h : Out C lo W W') (hB : B ≤ C) : Out B lo W W' := ⟨Nat.le_trans hB h.le, fun b hb => h.blk b (Nat.lt_of_lt_of_le hb hB)⟩
/-- A row of the call's own that is finished: it lies from base on, below hi. -/
structure RowIn (V : World) (base hi : Nat) (e : TypeId) (size : Nat) (A : Option Addr) (n c : Nat) (xs : List Value) : Prop where
  row : V.ownsRow base e size (.slice A n c) n xs
  top : ∀ ad, A = some ad → ad.block < hi
theorem RowIn.out {V V' : World} {base hi lo B : Nat} {e : TypeId} {size : Nat} {A : Option Addr} {n c : Nat} {xs : List Value} (h : RowIn V base hi e size A n c xs) (hl : lo + 4 ≤ base) (hB : hi ≤ B) (k : Out B lo V V') : RowIn V' base hi e size A n c xs := by
  refine ⟨?_, h.top⟩
  obtain ⟨h1, h2⟩ := h.row
  refine ⟨h1, ?_⟩
  rcases h2 with h2 | ⟨g, cap, cur, he, hb, hh, r⟩
  · exact Or.inl h2
  · refine Or.inr ⟨g, cap, cur, he, hb, (k.blk g ?_ (by omega)).trans hh, r⟩
    injection he with hA
    have := h.top _ hA
    simp at this
    omega
theorem row_top {W : World} {base : Nat} {e : TypeId} {size : Nat} {A : Option Addr} {n c : Nat} {xs : List Value} (h : W.ownsRow base e size (.slice A n c) n xs) : ∀ ad, A = some ad → ad.block < W.heap.size := by
  intro ad had
  rcases h.2 with ⟨he, _⟩ | ⟨g, cap, cur, he, _, hh, _⟩
  · injection he with hA
    rw [had] at hA
    cases hA
  · injection he with hA
    rw [had] at hA
    injection hA with hA
    subst hA
    exact Blk.lt (t := e) hh
theorem fin_start {W : World} {lo B : Nat} {e : TypeId} {size n : Nat} {v : Value} {xs : List Value} {A : Option Addr} {gs : List (Int × Int)} (hrow : W.ownsRow B e size v n xs) (hG : Gr W B A gs) (ho : Off lo A) (hl : lo + 4 ≤ B) (hB : B ≤ W.heap.size) :
    ∃ C AL cL, ∃ P : World → Prop, B ≤ C ∧ C ≤ W.heap.size ∧ v = .slice AL n cL ∧ P W ∧ (∀ V V', Out C lo V V' → P V → P V') ∧ (∀ V, P V → Gr V B A gs ∧ RowIn V B C e size AL n cL xs) := by
  obtain ⟨AL, cL, rfl⟩ := row_slice hrow
  refine ⟨W.heap.size, AL, cL, fun V => Gr V B A gs ∧ RowIn V B W.heap.size e size AL n cL xs, hB, Nat.le_refl _, rfl, ⟨hG, hrow, row_top hrow⟩, fun V V' k h => ⟨h.1.out ho (k.less hB), h.2.out hl (Nat.le_refl _) k⟩, fun V h => h⟩
theorem fin_next {W : World} {lo B : Nat} {P : World → Prop} {e : TypeId} {size n : Nat} {v : Value} {xs : List Value} (hP : P W) (hc : ∀ V V', Out B lo V V' → P V → P V') (hrow : W.ownsRow B e size v n xs) (hl : lo + 4 ≤ B) (hB : B ≤ W.heap.size) :
    ∃ C A c, ∃ P' : World → Prop, B ≤ C ∧ C ≤ W.heap.size ∧ v = .slice A n c ∧ P' W ∧ (∀ V V', Out C lo V V' → P' V → P' V') ∧ (∀ V, P' V → P V ∧ RowIn V B C e size A n c xs) := by
  obtain ⟨A, c, rfl⟩ := row_slice hrow
  exact ⟨W.heap.size, A, c, fun V => P V ∧ RowIn V B W.heap.size e size A n c xs, hB, Nat.le_refl _, rfl, ⟨hP, hrow, row_top hrow⟩, fun V V' k h => ⟨hc _ _ (k.less hB) h.1, h.2.out hl (Nat.le_refl _) k⟩, fun V h => h⟩
/-- What is finished stays behind a pick. -/
theorem pick_keep {P : World → Prop} {B lo p : Nat} {W W' : World} {u : Value} (hP : P W) (hc : ∀ V V', Out B lo V V' → P V → P V') (hB : B ≤ W.heap.size) (h1 : lo ≤ p) (h2 : p < lo + 4) (hse : W.setCell ⟨p, 0, none⟩ u = W') : P W' ∧ B ≤ W'.heap.size := by
  subst hse
  exact ⟨hc _ _ ((Out.self hB).set (p := ⟨p, 0, none⟩) h1 h2 u) hP, by simp; exact hB⟩
theorem drew_keep {P : World → Prop} {B lo : Nat} {W : World} (hP : P W) (hc : ∀ V V', Out B lo V V' → P V → P V') (hB : B ≤ W.heap.size) : P W.drew := hc _ _ (Out.self hB).drew hP
theorem alloc_keep {P : World → Prop} {B lo : Nat} {W : World} (hP : P W) (hc : ∀ V V', Out B lo V V' → P V → P V') (hB : B ≤ W.heap.size) (o : Obj) : P (W.alloc o) ∧ B ≤ (W.alloc o).heap.size := ⟨hc _ _ ((Out.self hB).alloc o) hP, by simp; omega⟩
/-- What is so while the list at field 3 grows: j elements may follow. -/
def OutsRel (w : World) (hL hR hA hC : Nat) (A0 : Option Addr) (c0 : Nat) (zs : List Int) (N L lim : Nat) (P : World → Prop) (B : Nat) (x0 x1 x2 x4 x5 x6 x7 : Value) (i : Value) (wr : World) : Prop :=
  ∃ (j a : Nat) (os : List Int) (v : Value), i = .int .i64 (j : Int) ∧ a + j ≤ lim ∧ os.length + j ≤ 3 ∧ wr.ownsRow B 3 1 v os.length (iv os) ∧ (∀ z ∈ os, Gm.litB (N : Int) L z = true) ∧ P wr ∧ B ≤ wr.heap.size ∧ MB w wr hL hR hA hC A0 c0 zs a x0 x1 x2 v x4 x5 x6 x7
theorem OutsRel.next {w w9 w10 : World} {hL hR hA hC : Nat} {A0 : Option Addr} {c0 : Nat} {zs : List Int} {N L lim : Nat} {P : World → Prop} {B : Nat} {x0 x1 x2 x4 x5 x6 x7 v v' : Value} {j a : Nat} {os : List Int} {y : Int}
    (h10 : MB w w10 hL hR hA hC A0 c0 zs (a + 1) x0 x1 x2 v x4 x5 x6 x7) (hrow : w10.ownsRow B 3 1 v' (os.length + 1) (iv os ++ [.int .i64 y])) (hP : P w9) (hc : ∀ V V', Out B w.heap.size V V' → P V → P V') (hgr : w9.grownBy w10 v.ownBlock)
    (hrow9 : w9.ownsRow B 3 1 v os.length (iv os)) (hbs : w.heap.size + 4 ≤ B) (hB9 : B ≤ w9.heap.size) (hlit : ∀ z ∈ os, Gm.litB (N : Int) L z = true) (hy : Gm.litB (N : Int) L y = true) (hj : os.length + (j + 1) ≤ 3) (ha : a + (j + 1) ≤ lim) :
    OutsRel w hL hR hA hC A0 c0 zs N L lim P B x0 x1 x2 x4 x5 x6 x7 (.int .i64 (j : Int)) (w10.setCell ⟨hC, 3, none⟩ v') := by
  have e4 := h10.eC
  have hs10 := hgr.size
  refine ⟨j, a + 1, os ++ [y], v', rfl, by omega, by simp; omega, ?_, ?_, ?_, by simp; omega, h10.put 3 v' (by rfl)⟩
  · have := row_set hrow (p := ⟨hC, 3, none⟩) (by simp; omega) v'
    rw [List.length_append, List.length_singleton]
    simpa [iv] using this
  · intro z hz
    rcases List.mem_append.1 hz with h | h
    · exact hlit z h
    · simp at h
      subst h
      exact hy
  · exact hc _ _ (((Out.self hB9).grown hgr (row_base hrow9)).set (p := ⟨hC, 3, none⟩) (by simp; omega) (by simp; omega) v') hP
/-- What is so while the list at field 4 grows: j elements may follow. -/
def BadsRel (w : World) (hL hR hA hC : Nat) (A0 : Option Addr) (c0 : Nat) (zs : List Int) (N L lim : Nat) (P : World → Prop) (B : Nat) (x0 x1 x2 x3 x5 x6 x7 : Value) (i : Value) (wr : World) : Prop :=
  ∃ (j a : Nat) (os : List Int) (v : Value), i = .int .i64 (j : Int) ∧ a + j ≤ lim ∧ os.length + j ≤ 3 ∧ wr.ownsRow B 3 1 v os.length (iv os) ∧ (∀ z ∈ os, Gm.litB (N : Int) L z = true) ∧ P wr ∧ B ≤ wr.heap.size ∧ MB w wr hL hR hA hC A0 c0 zs a x0 x1 x2 x3 v x5 x6 x7
theorem BadsRel.next {w w9 w10 : World} {hL hR hA hC : Nat} {A0 : Option Addr} {c0 : Nat} {zs : List Int} {N L lim : Nat} {P : World → Prop} {B : Nat} {x0 x1 x2 x3 x5 x6 x7 v v' : Value} {j a : Nat} {os : List Int} {y : Int}
    (h10 : MB w w10 hL hR hA hC A0 c0 zs (a + 1) x0 x1 x2 x3 v x5 x6 x7) (hrow : w10.ownsRow B 3 1 v' (os.length + 1) (iv os ++ [.int .i64 y])) (hP : P w9) (hc : ∀ V V', Out B w.heap.size V V' → P V → P V') (hgr : w9.grownBy w10 v.ownBlock)
    (hrow9 : w9.ownsRow B 3 1 v os.length (iv os)) (hbs : w.heap.size + 4 ≤ B) (hB9 : B ≤ w9.heap.size) (hlit : ∀ z ∈ os, Gm.litB (N : Int) L z = true) (hy : Gm.litB (N : Int) L y = true) (hj : os.length + (j + 1) ≤ 3) (ha : a + (j + 1) ≤ lim) :
    BadsRel w hL hR hA hC A0 c0 zs N L lim P B x0 x1 x2 x3 x5 x6 x7 (.int .i64 (j : Int)) (w10.setCell ⟨hC, 4, none⟩ v') := by
  have e4 := h10.eC
  have hs10 := hgr.size
  refine ⟨j, a + 1, os ++ [y], v', rfl, by omega, by simp; omega, ?_, ?_, ?_, by simp; omega, h10.put 4 v' (by rfl)⟩
  · have := row_set hrow (p := ⟨hC, 4, none⟩) (by simp; omega) v'
    rw [List.length_append, List.length_singleton]
    simpa [iv] using this
  · intro z hz
    rcases List.mem_append.1 hz with h | h
    · exact hlit z h
    · simp at h
      subst h
      exact hy
  · exact hc _ _ (((Out.self hB9).grown hgr (row_base hrow9)).set (p := ⟨hC, 4, none⟩) (by simp; omega) (by simp; omega) v') hP
/-- What is so while the list at field 5 grows: j elements may follow. -/
def ConsRel (w : World) (hL hR hA hC : Nat) (A0 : Option Addr) (c0 : Nat) (zs : List Int) (N L lim : Nat) (P : World → Prop) (B : Nat) (x0 x1 x2 x3 x4 x6 x7 : Value) (i : Value) (wr : World) : Prop :=
  ∃ (j a : Nat) (os : List Int) (v : Value), i = .int .i64 (j : Int) ∧ a + j ≤ lim ∧ os.length + j ≤ 3 ∧ wr.ownsRow B 3 1 v os.length (iv os) ∧ (∀ z ∈ os, Gm.litB (N : Int) L z = true) ∧ P wr ∧ B ≤ wr.heap.size ∧ MB w wr hL hR hA hC A0 c0 zs a x0 x1 x2 x3 x4 v x6 x7
theorem ConsRel.next {w w9 w10 : World} {hL hR hA hC : Nat} {A0 : Option Addr} {c0 : Nat} {zs : List Int} {N L lim : Nat} {P : World → Prop} {B : Nat} {x0 x1 x2 x3 x4 x6 x7 v v' : Value} {j a : Nat} {os : List Int} {y : Int}
    (h10 : MB w w10 hL hR hA hC A0 c0 zs (a + 1) x0 x1 x2 x3 x4 v x6 x7) (hrow : w10.ownsRow B 3 1 v' (os.length + 1) (iv os ++ [.int .i64 y])) (hP : P w9) (hc : ∀ V V', Out B w.heap.size V V' → P V → P V') (hgr : w9.grownBy w10 v.ownBlock)
    (hrow9 : w9.ownsRow B 3 1 v os.length (iv os)) (hbs : w.heap.size + 4 ≤ B) (hB9 : B ≤ w9.heap.size) (hlit : ∀ z ∈ os, Gm.litB (N : Int) L z = true) (hy : Gm.litB (N : Int) L y = true) (hj : os.length + (j + 1) ≤ 3) (ha : a + (j + 1) ≤ lim) :
    ConsRel w hL hR hA hC A0 c0 zs N L lim P B x0 x1 x2 x3 x4 x6 x7 (.int .i64 (j : Int)) (w10.setCell ⟨hC, 5, none⟩ v') := by
  have e4 := h10.eC
  have hs10 := hgr.size
  refine ⟨j, a + 1, os ++ [y], v', rfl, by omega, by simp; omega, ?_, ?_, ?_, by simp; omega, h10.put 5 v' (by rfl)⟩
  · have := row_set hrow (p := ⟨hC, 5, none⟩) (by simp; omega) v'
    rw [List.length_append, List.length_singleton]
    simpa [iv] using this
  · intro z hz
    rcases List.mem_append.1 hz with h | h
    · exact hlit z h
    · simp at h
      subst h
      exact hy
  · exact hc _ _ (((Out.self hB9).grown hgr (row_base hrow9)).set (p := ⟨hC, 5, none⟩) (by simp; omega) (by simp; omega) v') hP
/-- What is so while the list at field 6 grows: j elements may follow. -/
def FairRel (w : World) (hL hR hA hC : Nat) (A0 : Option Addr) (c0 : Nat) (zs : List Int) (N L lim : Nat) (P : World → Prop) (B : Nat) (x0 x1 x2 x3 x4 x5 x7 : Value) (i : Value) (wr : World) : Prop :=
  ∃ (j a : Nat) (os : List Int) (v : Value), i = .int .i64 (j : Int) ∧ a + j ≤ lim ∧ os.length + j ≤ 3 ∧ wr.ownsRow B 3 1 v os.length (iv os) ∧ (∀ z ∈ os, Gm.litB (N : Int) L z = true) ∧ P wr ∧ B ≤ wr.heap.size ∧ MB w wr hL hR hA hC A0 c0 zs a x0 x1 x2 x3 x4 x5 v x7
theorem FairRel.next {w w9 w10 : World} {hL hR hA hC : Nat} {A0 : Option Addr} {c0 : Nat} {zs : List Int} {N L lim : Nat} {P : World → Prop} {B : Nat} {x0 x1 x2 x3 x4 x5 x7 v v' : Value} {j a : Nat} {os : List Int} {y : Int}
    (h10 : MB w w10 hL hR hA hC A0 c0 zs (a + 1) x0 x1 x2 x3 x4 x5 v x7) (hrow : w10.ownsRow B 3 1 v' (os.length + 1) (iv os ++ [.int .i64 y])) (hP : P w9) (hc : ∀ V V', Out B w.heap.size V V' → P V → P V') (hgr : w9.grownBy w10 v.ownBlock)
    (hrow9 : w9.ownsRow B 3 1 v os.length (iv os)) (hbs : w.heap.size + 4 ≤ B) (hB9 : B ≤ w9.heap.size) (hlit : ∀ z ∈ os, Gm.litB (N : Int) L z = true) (hy : Gm.litB (N : Int) L y = true) (hj : os.length + (j + 1) ≤ 3) (ha : a + (j + 1) ≤ lim) :
    FairRel w hL hR hA hC A0 c0 zs N L lim P B x0 x1 x2 x3 x4 x5 x7 (.int .i64 (j : Int)) (w10.setCell ⟨hC, 6, none⟩ v') := by
  have e4 := h10.eC
  have hs10 := hgr.size
  refine ⟨j, a + 1, os ++ [y], v', rfl, by omega, by simp; omega, ?_, ?_, ?_, by simp; omega, h10.put 6 v' (by rfl)⟩
  · have := row_set hrow (p := ⟨hC, 6, none⟩) (by simp; omega) v'
    rw [List.length_append, List.length_singleton]
    simpa [iv] using this
  · intro z hz
    rcases List.mem_append.1 hz with h | h
    · exact hlit z h
    · simp at h
      subst h
      exact hy
  · exact hc _ _ (((Out.self hB9).grown hgr (row_base hrow9)).set (p := ⟨hC, 6, none⟩) (by simp; omega) (by simp; omega) v') hP
def qName : Nm := (108, 0, ⟨#[113]⟩)
/-- The names that Made gives, after the first one. -/
def NamesRel (w : World) (hL hR hA hC : Nat) (A0 : Option Addr) (c0 : Nat) (zs : List Int) (P : World → Prop) (B : Nat) (x0 x1 x2 x3 x4 x5 x6 : Value) (wr : World) : Prop :=
  ∃ (a : Nat) (ns : List Nm) (v : Value), a ≤ 60 ∧ (ns = [] ∨ ns = [qName]) ∧ wr.ownsRow B 69 3 v ns.length (flatN ns) ∧ P wr ∧ B ≤ wr.heap.size ∧ MB w wr hL hR hA hC A0 c0 zs a x0 x1 x2 x3 x4 x5 x6 v
def txt3 (k : Nat) : ByteArray := if k = 0 then ⟨#[111, 117, 116]⟩ else if k = 1 then ⟨#[108, 49]⟩ else ⟨#[97, 45, 98]⟩
def NamesOk (L : Nat) (ns : List Nm) : Prop := ∃ ns0 : List Nm, (ns0 = [] ∨ ns0 = [qName]) ∧ (ns = ns0 ∨ (0 < L ∧ ∃ k, k < 3 ∧ ns = ns0 ++ [(111, (L : Int) - 1, txt3 k)]))
def EndRel (w : World) (hL hR hA hC : Nat) (A0 : Option Addr) (c0 : Nat) (zs : List Int) (L : Nat) (P : World → Prop) (B : Nat) (x0 x1 x2 x3 x4 x5 x6 : Value) (wr : World) : Prop :=
  ∃ (a : Nat) (ns : List Nm) (v : Value), a ≤ 70 ∧ NamesOk L ns ∧ wr.ownsRow B 69 3 v ns.length (flatN ns) ∧ P wr ∧ B ≤ wr.heap.size ∧ MB w wr hL hR hA hC A0 c0 zs a x0 x1 x2 x3 x4 x5 x6 v
theorem name_next {w w9 w10 : World} {hL hR hA hC : Nat} {A0 : Option Addr} {c0 : Nat} {zs : List Int} {P : World → Prop} {B a : Nat} {x0 x1 x2 x3 x4 x5 x6 v v' : Value} {ns : List Nm} {k i : Int} {t : ByteArray}
    (h10 : MB w w10 hL hR hA hC A0 c0 zs a x0 x1 x2 x3 x4 x5 x6 v) (hrow : w10.ownsRow B 69 3 v' (ns.length + 1) (flatN ns ++ [.int .u8 k, .int .i64 i, .string t])) (hP : P w9) (hc : ∀ V V', Out B w.heap.size V V' → P V → P V') (hgr : w9.grownBy w10 v.ownBlock)
    (hrow9 : w9.ownsRow B 69 3 v ns.length (flatN ns)) (hbs : w.heap.size + 4 ≤ B) (hB9 : B ≤ w9.heap.size) :
    (w10.setCell ⟨hC, 7, none⟩ v').ownsRow B 69 3 v' (ns ++ [(k, i, t)]).length (flatN (ns ++ [(k, i, t)])) ∧ P (w10.setCell ⟨hC, 7, none⟩ v') ∧ B ≤ (w10.setCell ⟨hC, 7, none⟩ v').heap.size ∧ MB w (w10.setCell ⟨hC, 7, none⟩ v') hL hR hA hC A0 c0 zs a x0 x1 x2 x3 x4 x5 x6 v' := by
  have e4 := h10.eC
  have hs10 := hgr.size
  refine ⟨?_, ?_, by simp; omega, h10.put 7 v' (by rfl)⟩
  · have := row_set hrow (p := ⟨hC, 7, none⟩) (by simp; omega) v'
    rw [List.length_append, List.length_singleton, flatN_append]
    exact this
  · exact hc _ _ (((Out.self hB9).grown hgr (row_base hrow9)).set (p := ⟨hC, 7, none⟩) (by simp; omega) (by simp; omega) v') hP
theorem ixS3 (sb r : Nat) (hr : r < 3) (w : World) : (Instr.indexAt 70 (.slice (some ⟨sb, 0, none⟩) 3 3) (.int .i64 (r : Int))).run Tryz.prog w = .ok (.pointer (some ⟨sb, r, none⟩)) w := by
  match r, hr with
  | 0, _ => go_simp
  | 1, _ => go_simp
  | 2, _ => go_simp
theorem txt_cell {w : World} {g : Nat} (h : Blk w g 9 #[.string ⟨#[111, 117, 116]⟩, .string ⟨#[108, 49]⟩, .string ⟨#[97, 45, 98]⟩]) (r : Nat) (hr : r < 3) : w.cell? ⟨g, r, none⟩ = some (.string (txt3 r)) := by
  rw [h.cell r]
  match r, hr with
  | 0, _ => rfl
  | 1, _ => rfl
  | 2, _ => rfl
end Go.Proofs.YtdnbndknfifmgaaGreatDoor
