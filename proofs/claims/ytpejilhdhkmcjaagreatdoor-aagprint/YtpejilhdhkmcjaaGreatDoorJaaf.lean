/- The reference's Right. -/
import Derived.Test.YtpejilhdhkmcjaaGreatDoorJaAl
import Derived.Test.YtpejilhdhkmcjaaGreatDoorJaae
import Derived.ProofKit
import Derived.OpenShut
import Derived.ShutString
namespace Go.Proofs.YtpejilhdhkmcjaaGreatDoor
open Go.RowKit

/-- What holds of the box in which the graph lies. -/
structure GB (w W : World) (n : Int) (s : Value) : Prop where
 low : Below w.heap.size w W
 d0 : W.cell? ⟨w.heap.size, 0, none⟩ = some (.int .i64 n)
 d1 : W.cell? ⟨w.heap.size, 1, none⟩ = some s
 sz : w.heap.size < W.heap.size
theorem GB.below {w W W' : World} {n : Int} {s : Value} (h : GB w W n s) (hb : Below W.heap.size W W') : GB w W' n s :=
 ⟨h.low.trans (hb.mono h.low.size), (hb.cell (p := ⟨w.heap.size, 0, none⟩) h.sz).trans h.d0, (hb.cell (p := ⟨w.heap.size, 1, none⟩) h.sz).trans h.d1, Nat.lt_of_lt_of_le h.sz hb.size⟩
theorem GB.drewN {w W : World} {n : Int} {s : Value} (h : GB w W n s) (q : Nat) : GB w (W.drewN q) n s := ⟨below_drewN h.low q, h.d0, h.d1, h.sz⟩
theorem GB.new (w : World) (n : Int) (s : Value) (t : TypeId) : GB w (w.alloc (Obj.cells #[.int .i64 n, s] t)) n s := by
 have hk := Blk.new w t #[.int .i64 n, s]
 exact ⟨(Below.refl w.heap.size w).alloc (Nat.le_refl _) _, hk.cell 0, hk.cell 1, by simp⟩

theorem tdiv_neg {x : Int} (h : x < 0) : x.tdiv 2 ≤ 0 := by
 have e : x.tdiv 2 = -((-x).tdiv 2) := by rw [Int.neg_tdiv, Int.neg_neg]
 rw [e, Int.tdiv_eq_ediv_of_nonneg (by omega)]
 omega
/-- No gate ahead of k is the gate at i. -/
def NoneOf (gs : List (Int × Int)) (g : Int × Int) (k : Nat) : Prop := ∀ j, j < k → gs.getD j (0, 0) ≠ g
theorem none_nodup {gs : List (Int × Int)} {i : Nat} (hi : i < gs.length) (h : (gs.take i).Nodup) (hn : NoneOf gs gs[i] i) : (gs.take (i + 1)).Nodup := by
 refine (Gm.nod_take gs i hi).2 ⟨h, fun hm => ?_⟩
 obtain ⟨p, hp, e⟩ := List.mem_take_iff_getElem.1 hm
 refine hn p (by omega) ?_
 rw [← e]
 simp [List.getElem?_eq_getElem (show p < gs.length by omega)]
theorem dup_not {gs : List (Int × Int)} {i k : Nat} (hi : i < gs.length) (hk : k < i) (e : gs[k] = gs[i]) : Gm.nodB gs = false := by
 have : ¬ gs.Nodup := fun hn => by
  have h1 := hn.idxOf_getElem k (by omega)
  have h2 := hn.idxOf_getElem i hi
  rw [e, h2] at h1
  omega
 simp [Gm.nodB, this]

set_option maxRecDepth 100000 in
set_option maxHeartbeats 4000000 in
theorem refRight_any (n : Int) (A : Option Addr) (c : Nat) (gs : List (Int × Int)) (w : World) (B : Nat) (hl : gs.length ≤ 1000000) (hg : Gr w B A gs) (hB : B ≤ w.heap.size) (hw : Wf gs) :
  Calls Tryz.prog 56 #[.agg #[.int .i64 n, .slice A gs.length c]] w fun e w' => e = .returned (.bool (Gm.rightB n gs)) ∧ Below w.heap.size w w' := by
 have hgb := GB.new w n (.slice A gs.length c) 64
 by_cases hf : Gm.fitB n gs.length = true
 ·
  have hn : 0 ≤ n ∧ n ≤ 2000 ∧ 1 + n + gs.length ≤ 2000 := by simp [Gm.fitB] at hf; omega
  obtain ⟨hn0, hn1, hn2⟩ := hn
  have hl2 : gs.length ≤ 2000 := by omega
  have HF := Lib.hid hf
  have HL := Lib.hid hl
  have hvs : decide (2000 < n + 1 + (gs.length : Int)) = false := by simp; omega
  have b1 : decide (n < 0) = false := by simp; omega
  have b2 : decide (2000 < n) = false := by simp; omega
  have b3 : decide (2000 < (gs.length : Int)) = false := by simp; omega
  clear hf hl
  go_enter Tryz.func56, Tryz.ntmps56
  go_wp2_with (go_at_call 36; refine (refVars_any n A gs.length c _ hn0 hn1 HL.out).mono ?_; rintro e w1 ⟨rfl, hb1⟩)
  have hgb1 := hgb.below hb1
  clear hgb hb1 hvs b1 b2 b3
  go_loopw [3] (fun i wr => ∃ k : Nat, k ≤ gs.length ∧ i = .int .i64 (k : Int) ∧ Gm.ordB n 0 (gs.take k) = true ∧ (gs.take k).Nodup ∧ GB w wr n (.slice A gs.length c)) (fun i _ => gs.length - (intOf i).toNat)
  case atStart => exact ⟨0, Nat.zero_le _, rfl, rfl, by simp, hgb1⟩
  obtain ⟨i, hi, rfl, ho, hnd, hgr⟩ := hrel
  have d0 := hgr.d0
  have d1 := hgr.d1
  have hgl := hg.below hgr.low hB
  by_cases hlt : i < gs.length
  ·
   obtain ⟨bb, off, hA, hbB, g1, g2⟩ := hgl i hlt
   subst hA
   have hwk := hw gs[i] (by simp)
   have hot := Gm.ordB_take n gs i hlt
   have hof := fun h => Gm.ordB_false n gs 0 i hlt h
   rw [Nat.zero_add] at hof
   have hnn := none_nodup hlt hnd
   have hdn : ∀ k, k < i → (hk : k < gs.length) → gs[k] = gs[i] → Gm.nodB gs = false := fun k h1 _ e => dup_not hlt h1 e
   generalize hgi : gs[i] = g at *
   obtain ⟨x, y⟩ := g
   have HGI := Lib.hid hgi
   clear hgi
   simp only at g1 g2 hwk
   obtain ⟨⟨hx0, hx1⟩, hy0, hy1⟩ := hwk
   rw [ho, Bool.true_and] at hot
   have H1 := Lib.hid hot
   have H2 := Lib.hid hof
   have H3 := Lib.hid hnn
   have H4 := Lib.hid hdn
   have HO := Lib.hid ho
   have HND := Lib.hid hnd
   have HG := Lib.hid hgl
   clear hot hof hnn hdn ho hnd hgl
   have hix := ix2 bb off gs.length c i HL.out hlt
   by_cases hgate : Gm.gateB n i (x, y) = true
   ·
    have hgx : 2 ≤ y ∧ y / 2 < x / 2 ∧ x / 2 < n + 1 + (i : Int) := by simp [Gm.gateB] at hgate; omega
    obtain ⟨hy2, hyx, hxn⟩ := hgx
    have hxp : 0 ≤ x := by omega
    have hT := Lib.hid (H1.out.trans hgate)
    have b1 : decide (y < 2) = false := by simp; omega
    have b2 : decide (x / 2 ≤ y / 2) = false := by simp; omega
    have b3 : decide (n + 1 + (i : Int) ≤ x / 2) = false := by simp; omega
    clear hgate H1 H2
    go_wp2
    go_quiet (fail)
    go_wp2
    clear b1 b2 b3
    go_loopw [6] (fun j wr => ∃ k : Nat, k ≤ i ∧ j = .int .i64 (k : Int) ∧ NoneOf gs (x, y) k ∧ GB w wr n (.slice (some ⟨bb, off, none⟩) gs.length c)) (fun j _ => i - (intOf j).toNat)
    case atStart => exact ⟨0, Nat.zero_le _, rfl, fun j hj => by omega, hgr.drewN _⟩
    obtain ⟨k, hk, rfl, hno, hgk⟩ := hrel
    have HNO := Lib.hid hno
    clear hno d0 d1
    have d0 := hgk.d0
    have d1 := hgk.d1
    have hgl2 := hg.below hgk.low hB
    by_cases hlt2 : k < i
    ·
     obtain ⟨b2, off2, hA2, _, p1, p2⟩ := hgl2 k (by omega)
     obtain ⟨b3, off3, hA3, _, p3, p4⟩ := hgl2 i hlt
     injection hA2 with hA2
     injection hA2 with hA2 hA2'
     subst hA2 hA2'
     injection hA3 with hA3
     injection hA3 with hA3 hA3'
     subst hA3 hA3'
     rw [HGI.out] at p3 p4
     simp only at p3 p4
     have hix2 := ix2 bb off gs.length c k HL.out (by omega)
     have hgu := eqGuard2
     generalize hgk2 : gs[k] = g2' at *
     obtain ⟨x2, y2⟩ := g2'
     have HGK := Lib.hid hgk2
     clear hgk2
     simp only at p1 p2
     have hel := eql_arr2 x2 y2 x y
     by_cases he : (x2, y2) = (x, y)
     ·
      have hnb := H4.out k hlt2 (by omega) (by rw [HGK.out, he])
      have HR := Lib.hid (show Gm.rightB n gs = false by simp [Gm.rightB, hnb])
      have hbe : (x2 == x && y2 == y) = true := by simp only [Prod.mk.injEq] at he; simp [he.1, he.2]
      rw [hbe] at hel
      clear hbe he hnb
      go_wp2
      go_quiet (fail)
      go_wp2
      go_ret
      exact ⟨ret_bool HR.out.symm, by exact below_drewN hgk.low _⟩
     have hbe : (x2 == x && y2 == y) = false := by
      simp only [Prod.mk.injEq] at he
      by_cases h1 : x2 = x
      ·
       have : ¬ y2 = y := fun h2 => he ⟨h1, h2⟩
       simp [this]
      simp [h1]
     have HNN := Lib.hid (show NoneOf gs (x, y) (k + 1) from fun j hj => by
      by_cases e : j < k
      ·
       exact HNO.out j e
      have : j = k := by omega
      subst this
      rw [List.getD_eq_getElem?_getD, List.getElem?_eq_getElem (by omega), HGK.out]
      exact he)
     rw [hbe] at hel
     clear hbe he
     go_wp2
     go_quiet (fail)
     go_wp2
     go_roundw
     case rel => exact ⟨k + 1, by omega, by go_num, HNN.out, hgk.drewN _⟩
     case measure => simp [intOf]; omega
    have hkk : k = i := by omega
    subst hkk
    have HNX := Lib.hid (H3.out HNO.out)
    go_wp2
    go_roundw
    case rel => exact ⟨k + 1, by omega, by go_num, hT.out, HNX.out, hgk⟩
    case measure => simp [intOf]; omega
   have hr : Gm.rightB n gs = false := by
    have := H2.out (by simpa using hgate)
    simp [Gm.rightB, this]
   have HR := Lib.hid hr
   clear hr
   by_cases hy : y < 2
   ·
    clear hgate
    go_wp2
    go_quiet (fail)
    go_wp2
    go_ret
    exact ⟨ret_bool HR.out.symm, by exact below_drewN hgr.low _⟩
   by_cases hx : x < 0
   ·
    have htd : x.tdiv 2 ≤ y / 2 := by have := tdiv_neg hx; omega
    clear hgate
    go_wp2
    go_quiet (fail)
    go_wp2
    go_ret
    exact ⟨ret_bool HR.out.symm, by exact below_drewN hgr.low _⟩
   by_cases hxy : x / 2 ≤ y / 2
   ·
    clear hgate
    go_wp2
    go_quiet (fail)
    go_wp2
    go_ret
    exact ⟨ret_bool HR.out.symm, by exact below_drewN hgr.low _⟩
   have hxx : n + 1 + (i : Int) ≤ x / 2 := by simp [Gm.gateB] at hgate; omega
   clear hgate
   go_wp2
   go_quiet (fail)
   go_wp2
   go_ret
   exact ⟨ret_bool HR.out.symm, by exact below_drewN hgr.low _⟩
  have hkk : i = gs.length := by omega
  have HR : Hid (Gm.rightB n gs = true) := by
   rw [hkk, List.take_length] at ho hnd
   show Gm.rightB n gs = true
   simp [Gm.rightB, HF.out, ho, Gm.nodB, hnd]
  clear ho hnd hkk
  go_wp2
  go_ret
  exact ⟨ret_bool HR.out.symm, hgr.low⟩
 have HR := Lib.hid (show Gm.rightB n gs = false by simp [Gm.rightB, hf])
 have HL := Lib.hid hl
 by_cases h0 : n < 0
 ·
  clear hf hl
  go_enter Tryz.func56, Tryz.ntmps56
  go_wp2
  go_ret
  exact ⟨ret_bool HR.out.symm, hgb.low⟩
 by_cases h1 : 2000 < n
 ·
  clear hf hl
  go_enter Tryz.func56, Tryz.ntmps56
  go_wp2
  go_ret
  exact ⟨ret_bool HR.out.symm, hgb.low⟩
 by_cases h2 : 2000 < gs.length
 ·
  have h2' : (2000 : Int) < gs.length := by omega
  clear hf hl
  go_enter Tryz.func56, Tryz.ntmps56
  go_wp2_with fail
  go_ret
  exact ⟨ret_bool HR.out.symm, hgb.low⟩
 have h3 : 2000 < n + 1 + (gs.length : Int) := by simp [Gm.fitB] at hf; omega
 have b1 : decide (n < 0) = false := by simp; omega
 have b2 : decide (2000 < n) = false := by simp; omega
 have b3 : decide (2000 < (gs.length : Int)) = false := by simp; omega
 clear hf hl
 go_enter Tryz.func56, Tryz.ntmps56
 go_wp2_with (go_at_call 36; refine (refVars_any n A gs.length c _ (by omega) (by omega) HL.out).mono ?_; rintro e w1 ⟨rfl, hb1⟩)
 go_ret
 exact ⟨ret_bool HR.out.symm, (hgb.below hb1).low⟩
end Go.Proofs.YtpejilhdhkmcjaaGreatDoor
/- The reference's And. -/
namespace Go.Proofs.YtpejilhdhkmcjaaGreatDoor
open Go.RowKit

end Go.Proofs.YtpejilhdhkmcjaaGreatDoor
/- The reference's And: the walk. -/
namespace Go.Proofs.YtpejilhdhkmcjaaGreatDoor
open Go.RowKit

end Go.Proofs.YtpejilhdhkmcjaaGreatDoor
/- The reference's And of a right graph and its literals. -/
namespace Go.Proofs.YtpejilhdhkmcjaaGreatDoor
open Go.RowKit

end Go.Proofs.YtpejilhdhkmcjaaGreatDoor
/- A graph in a box of the law's own. -/
namespace Go.Proofs.YtpejilhdhkmcjaaGreatDoor
open Go.RowKit

theorem wf_nil : Wf [] := fun g h => by cases h
theorem gr_nil {w : World} {C : Nat} {A : Option Addr} : Gr w C A [] := fun k hk => by simp at hk

/-- A graph in a box of the law's own. -/
structure GX (k : Nat) (n : Int) (A : Option Addr) (c l : Nat) (gs : List (Int × Int)) (V : World) : Prop where
 c0 : V.cell? ⟨k, 0, none⟩ = some (.int .i64 n)
 c1 : V.cell? ⟨k, 1, none⟩ = some (.slice A l c)
 lt : k < V.heap.size
 gr : Gr V V.heap.size A gs
end Go.Proofs.YtpejilhdhkmcjaaGreatDoor
/- The row's last step where the call has made memory: nothing that was there has turned. -/
namespace Go.Proofs.YtpejilhdhkmcjaaGreatDoor
open Go.ChangeShapes Go.WideShapes Go.ChangeAt Go.RowKit

theorem Tryz.own : ownKnob Tryz.prog.godebug = none := by kernel_rfl

section
variable {H : Type} {enc : TypeId × Value → H} {P : Program}
theorem post_low {f : Func} {s : ChangeSpec} {apart fresh handsOn again : Bool} {W W' : World} {args : Array Value} {v : Value} {ds gs : List (DataW H)} {before pa pv : List MemPlace}
  (hW : DataW.Whole enc P f.params.toList s.vars apart W args.toList ds gs before)
  (hres : ∀ (b : Nat) (sp : Nat → Bool) (hd : Bool), DataW.TrodAll enc P W' b sp hd f.resultTypes.toList (v.resultList f.resultTypes.size) (s.fn H (ds ++ gs)).results [])
  (hargs : ∀ sp : Nat → Bool, (∀ p ∈ before, sp p.block = true) → DataW.TrodAll enc P W' 0 sp true f.params.toList args.toList (s.fn H (ds ++ gs)).args pa)
  (hvars : ∀ sp : Nat → Bool, (∀ p ∈ before, sp p.block = true) → DataW.TrodVars enc P W' sp s.vars (s.fn H (ds ++ gs)).vars pv)
  (hps : before = pa ++ pv) (hb : Below W.heap.size W W')
  (hok : ∀ (j : Nat) (t : TypeId) (r : Value), f.resultTypes[j]? = some t → (v.resultList f.resultTypes.size)[j]? = some r → Value.okWide P W' .any 0 t r) :
  s.post enc P f apart fresh handsOn again W args v W' := by
 have hlt : ∀ p ∈ before, p.block < W.heap.size := fun p hp => hW.lt p hp
 have hold : ∀ p ∈ before, (fun b => decide (b < W.heap.size)) p.block = true := fun p hp => by simpa using hlt p hp
 refine ⟨ds, gs, before, [], pa, pv, hW, hres _ _ _, hargs _ hold, hvars _ hold, World.keptBut_mono (fun p hp => ⟨hp, ?_⟩) (hb.frame (· ∈ before)), fun _ => ?_⟩
 ·
  rw [hps, List.mem_append] at hp
  exact Or.inr hp
 obtain ⟨_, _, _, _, _, hz, hn⟩ := hW
 refine ⟨hok, _, _, ([] ++ pa) ++ pv, ⟨[] ++ pa, pv, trodAll_append (hargs _ (fun _ _ => rfl)) (hres _ _ _), hvars _ (fun _ _ => rfl), rfl, ?_, ?_⟩, ?_⟩
 ·
  intro b off hp
  have hin : MemPlace.cell b off ∈ before := by rw [hps]; simpa using hp
  rw [hb.frozen (hlt _ hin)]
  exact hz b off hin
 ·
  intro ha
  have := hn ha
  rw [hps] at this
  simpa using this
 intro p hp _
 rw [hps]
 simpa using hp
end
end Go.Proofs.YtpejilhdhkmcjaaGreatDoor
/- What And makes of a right graph is right; Or and Ite likewise. -/
namespace Go.Proofs.YtpejilhdhkmcjaaGreatDoor
open Go.RowKit

structure AndGood (n : Int) (gs : List (Int × Int)) (r : Gm.Res) : Prop where
 err : r.2.2 = 0
 ins : r.1.1 = n
 right : Gm.rightB n r.1.2 = true
 lit : Gm.litB n r.1.2.length r.2.1 = true
 grow : r.1.2.length ≤ gs.length + 1
 pre : ∃ t, r.1.2 = gs ++ t
structure IteGood (n : Int) (gs : List (Int × Int)) (r : Gm.Res) : Prop where
 err : r.2.2 = 0
 ins : r.1.1 = n
 right : Gm.rightB n r.1.2 = true
 lit : Gm.litB n r.1.2.length r.2.1 = true
 grow : r.1.2.length ≤ gs.length + 3
 pre : ∃ t, r.1.2 = gs ++ t
end Go.Proofs.YtpejilhdhkmcjaaGreatDoor
/- Made: a graph by numbers. -/
namespace Go.Proofs.YtpejilhdhkmcjaaGreatDoor
open Go.RowKit

/-- The slice at A holds the numbers zs. -/
def Us (w : World) (B : Nat) (A : Option Addr) (zs : List Int) : Prop :=
 ∀ k (hk : k < zs.length), ∃ b off, A = some ⟨b, off, none⟩ ∧ b < B ∧ w.cell? ⟨b, off + k, none⟩ = some (.int .u16 zs[k]) ∧ 0 ≤ zs[k] ∧ zs[k] ≤ 65535
theorem Us.below {w w' : World} {B C : Nat} {A : Option Addr} {zs : List Int} (h : Us w B A zs) (hb : Below C w w') (hB : B ≤ C) : Us w' B A zs := by
 intro k hk
 obtain ⟨b, off, rfl, hlt, h1, h2⟩ := h k hk
 exact ⟨b, off, rfl, hlt, (hb.cell (p := ⟨b, _, none⟩) (Nat.lt_of_lt_of_le hlt hB)).trans h1, h2⟩
theorem ixU (sb off N c r : Nat) (_hm : N ≤ 9223372036854775807) (hr : r < N) (w : World) : (Instr.indexAt 34 (.slice (some ⟨sb, off, none⟩) N c) (.int .i64 (r : Int))).run Tryz.prog w = .ok (.pointer (some ⟨sb, off + r, none⟩)) w := by go_simp

/-- A graph of n inputs by numbers: what is known of it. -/
structure Good (n : Int) (gs : List (Int × Int)) (k : Nat) (last : Int) : Prop where
 right : Gm.rightB n gs = true
 few : gs.length ≤ k
 wf : Wf gs
 lit : Gm.litB n gs.length last = true
/-- What Made keeps in its boxes. -/
structure MInv (w wr : World) (n : Int) (A : Option Addr) (c : Nat) (gs : List (Int × Int)) : Prop where
 low : Below w.heap.size w wr
 d0 : wr.cell? ⟨w.heap.size + 1, 0, none⟩ = some (.int .i64 n)
 d1 : wr.cell? ⟨w.heap.size + 1, 1, none⟩ = some (.slice A gs.length c)
 e0 : wr.cell? ⟨w.heap.size, 0, none⟩ = some (.int .i64 0)
 e1 : wr.cell? ⟨w.heap.size, 1, none⟩ = some (.slice none 0 0)
 f0 : wr.frozen? ⟨w.heap.size, 0, none⟩ = false
 f1 : wr.frozen? ⟨w.heap.size, 1, none⟩ = false
 g0 : wr.frozen? ⟨w.heap.size + 1, 0, none⟩ = false
 g1 : wr.frozen? ⟨w.heap.size + 1, 1, none⟩ = false
 sz : w.heap.size + 1 < wr.heap.size
 gr : Gr wr wr.heap.size A gs
 sep : Sep 0 (w.heap.size + 2) A
end Go.Proofs.YtpejilhdhkmcjaaGreatDoor
