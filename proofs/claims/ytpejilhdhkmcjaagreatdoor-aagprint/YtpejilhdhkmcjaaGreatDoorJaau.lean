/- The reader of texts: the numbers of a line. -/
import Derived.Test.YtpejilhdhkmcjaaGreatDoorJaAl
import Derived.Test.YtpejilhdhkmcjaaGreatDoorJaas
import Derived.Test.YtpejilhdhkmcjaaGreatDoorJaar
import Derived.Test.YtpejilhdhkmcjaaGreatDoorJaat
namespace Go.Proofs.YtpejilhdhkmcjaaGreatDoor
open Go.RowKit

theorem mapM_snoc (ws : List Ag.Bs) (i : Nat) (h : i < ws.length) : (ws.take (i + 1)).mapM Ag.digL = match (ws.take i).mapM Ag.digL with | none => none | some ns => match Ag.digL ws[i] with | none => none | some n => some (ns ++ [n]) := by
 rw [List.take_succ_eq_append_getElem h, List.mapM_append]
 cases (ws.take i).mapM Ag.digL with
 | none => rfl
 | some ns =>
  cases hd : Ag.digL ws[i] with
  | none => simp [hd]
  | some n => simp [hd]
theorem mapM_fail (ws : List Ag.Bs) (i : Nat) (h : (ws.take i).mapM Ag.digL = none) : ws.mapM Ag.digL = none := by
 have := List.take_append_drop i ws
 rw [← this, List.mapM_append, h]
 rfl
theorem mapM_len (ws : List Ag.Bs) (ns : List Nat) (h : ws.mapM Ag.digL = some ns) : ns.length = ws.length := by
 induction ws generalizing ns with
 | nil =>
  simp at h
  subst h
  rfl
 | cons w ws ih =>
  rw [List.mapM_cons] at h
  cases hd : Ag.digL w with
  | none =>
   rw [hd] at h
   cases h
  | some n =>
   rw [hd] at h
   cases hr : ws.mapM Ag.digL with
   | none =>
    rw [hr] at h
    cases h
   | some ms =>
    rw [hr] at h
    injection h with h
    subst h
    simp [ih ms hr]
theorem words_short (l : Ag.Bs) : ∀ x ∈ Ag.wordsS l, x.length ≤ l.length := by
 induction l with
 | nil => simp [Ag.wordsS]
 | cons b t ih =>
  rw [Ag.wordsS]
  split
  ·
   intro x hx
   rcases List.mem_cons.1 hx with rfl | hx
   ·
    simp
   have := ih x hx
   simp
   omega
  split
  ·
   rename_i w ws hw
   rw [hw] at ih
   intro x hx
   rcases List.mem_cons.1 hx with rfl | hx
   ·
    have := ih w (by simp)
    simp
    omega
   have := ih x (by simp [hx])
   simp
   omega
  simp
theorem row_low {w w' : World} {base : Nat} {e : TypeId} {size : Nat} {v : Value} {n : Nat} {xs : List Value} (h : w.ownsRow base e size v n xs) (hb : Below w.heap.size w w') : w'.ownsRow base e size v n xs := by
 refine ⟨h.1, ?_⟩
 rcases h.2 with h2 | ⟨g, cap, cur, he, hbs, hh, r⟩
 ·
  exact Or.inl h2
 exact Or.inr ⟨g, cap, cur, he, hbs, (hb.block g (Blk.lt (t := e) hh)).trans hh, r⟩
def natV (ns : List Nat) : List Int := ns.map (fun n : Nat => (n : Int))
theorem natV_len (ns : List Nat) : (natV ns).length = ns.length := by simp [natV]
theorem natV_snoc (ns : List Nat) (n : Nat) : iv (natV (ns ++ [n])) = iv (natV ns) ++ [.int .i64 (n : Int)] := by simp [natV, iv]
/-- Numbers are read, or the reading ends. -/
def OpenP (R : Nat) (k : Int) (w : World) (bg : List Nat) (o : Option (Ag.Bs × Ag.Bs)) (e : Ending) (w' : World) : Prop :=
 match o with
 | none => e = faultE k ∧ RKeep R w w'
 | some (l, r) => match Ag.openS bg l with
  | none => e = faultE k ∧ RKeep R w w'
  | some m => ∃ g off c, e = .returned (.slice (some ⟨g, off, none⟩) m.length c) ∧ w.heap.size ≤ g ∧ Vs w' w'.heap.size (some ⟨g, off, none⟩) (iv (natV m)) ∧ RB w' R ⟨r.toArray⟩ k ∧ RKeep R w w'
set_option maxRecDepth 10000 in
set_option maxHeartbeats 4000000 in
theorem ropen_any (R : Nat) (s : Ag.Bs) (k : Int) (B : Nat) (bg : List Nat) (A : Option Addr) (c : Nat) (w : World) (h : RB w R ⟨s.toArray⟩ k) (hs : s.length ≤ 100000) (hA : Amb B w) (hR : B ≤ R) (hbg : (bg = [] ∧ A = none ∧ c = 0) ∨ ∃ x b off, bg = [x] ∧ A = some ⟨b, off, none⟩ ∧ b ≠ R ∧ w.cell? ⟨b, off, none⟩ = some (.int .i64 (x : Int))) :
  Calls Tryz.prog 90 #[.pointer (some ⟨R, 0, none⟩), .slice A bg.length c] w (OpenP R k w bg (Ag.lineS s)) := by
 have HW := Lib.hid (words_any R s k B w h hs hA hR)
 have HLL : Hid (∀ l r, Ag.lineS s = some (l, r) → l.length ≤ 100000) := by
  intro l r e
  have := congrArg List.length (Ag.line_some e).1
  simp at this
  omega
 have HRZ : Hid (R < w.heap.size) := Blk.lt h
 have HBG := Lib.hid hbg
 have HBL : Hid (bg.length ≤ 1) := by
  rcases hbg with ⟨rfl, _⟩ | ⟨x, b, off, rfl, _⟩ <;> simp [Hid]
 clear hbg
 generalize Ag.lineS s = o at *
 go_enter Tryz.func90, Tryz.ntmps90
 go_wp2_with fail
 refine HW.out.mono ?_
 intro e w1 hP
 cases o with
 | none =>
  obtain ⟨rfl, hk⟩ := hP
  exact ⟨rfl, rfl, hk⟩
 | some q =>
  obtain ⟨l, r⟩ := q
  obtain ⟨g, rfl, hwd, hg, hrb, hk⟩ := hP
  have HA1 := Lib.hid (hA.keep hk hR)
  have HKW := Lib.hid hk
  have hwl : (Ag.wordsS l).length ≤ 100001 := by
   rw [words_count]
   have := HLL.out l r rfl
   have := List.count_le_length (a := (32 : UInt8)) (l := l)
   omega
  have HWP : Hid (∀ x ∈ Ag.wordsS l, x.length ≤ 100000) := fun x hx => Nat.le_trans (words_short l x hx) (HLL.out l r rfl)
  have HG := Lib.hid hg
  have HWD := Lib.hid hwd
  have HOP : Hid (∀ e w', (match Ag.openS bg l with | none => e = faultE k ∧ RKeep R w w' | some m => ∃ g off c, e = .returned (.slice (some ⟨g, off, none⟩) m.length c) ∧ w.heap.size ≤ g ∧ Vs w' w'.heap.size (some ⟨g, off, none⟩) (iv (natV m)) ∧ RB w' R ⟨r.toArray⟩ k ∧ RKeep R w w') → OpenP R k w bg (some (l, r)) e w') := fun _ _ h => h
  have hgR : g ≠ R := by have := HRZ.out; omega
  generalize hws : Ag.wordsS l = ws at *
  have HWS := Lib.hid hws
  clear hws hwd hg hk HW HLL h
  go_wp2
  go_loopw [5, 7, 11] (fun v _ i wr => ∃ (j : Nat) (ns : List Nat), j ≤ ws.length ∧ i = .int .i64 (j : Int) ∧ (ws.take j).mapM Ag.digL = some ns ∧ wr.ownsRow w1.heap.size 3 1 v ns.length (iv (natV ns)) ∧ RB wr R ⟨r.toArray⟩ k ∧ RKeep R w1 wr) (fun _ _ i _ => ws.length - (intOf i).toNat)
  case atStart => exact ⟨0, [], Nat.zero_le _, rfl, rfl, World.ownsRow_nil w1 _ _ _, hrb, RKeep.refl _ _⟩
  clear hrb
  obtain ⟨j, ns, hj, rfl, hns, hrow, hrb, hk⟩ := hrel
  have HNS := Lib.hid hns
  have hnl : ns.length = j := by
   rw [mapM_len _ _ hns, List.length_take]
   omega
  have HNL := Lib.hid hnl
  clear hns hnl
  by_cases hlt : j < ws.length
  ·
   have hjz : (j : Int) < (ws.length : Int) := by omega
   have hwd := hk.blkOf HWD.out hgR
   have cj := hwd.cell j
   rw [List.getElem?_toArray, List.getElem?_map, List.getElem?_eq_getElem hlt, Option.map_some] at cj
   have HNX := Lib.hid (fun (V : World) (hb : RB V R ⟨r.toArray⟩ k) (ha : Amb B V) => rnumber_any R ⟨r.toArray⟩ ws[j] k B V hb (HWP.out _ (List.getElem_mem hlt)) ha)
   have HSN := Lib.hid (mapM_snoc ws j hlt)
   generalize ws[j] = x at *
   go_wp2_with fail
   refine (HNX.out wr hrb (HA1.out.keep hk hR)).mono ?_
   intro e w2 hP
   cases hd : Ag.digL x with
   | none =>
    rw [hd] at hP
    obtain ⟨rfl, hb2⟩ := hP
    have hnum : Ag.numsS l = none := by
     unfold Ag.numsS
     rw [HWS.out]
     refine mapM_fail ws (j + 1) ?_
     rw [HSN.out, HNS.out, hd]
    exact ⟨rfl, HOP.out _ _ (by
     unfold Ag.openS
     rw [hnum]
     exact ⟨rfl, HKW.out.trans (hk.below hb2)⟩)⟩
   | some n =>
    rw [hd] at hP
    obtain ⟨rfl, hb2⟩ := hP
    have HN1 : Hid ((ws.take (j + 1)).mapM Ag.digL = some (ns ++ [n])) := by
     unfold Hid
     rw [HSN.out, HNS.out, hd]
    have hk2 := hk.below hb2
    have hrb2 : RB w2 R ⟨r.toArray⟩ k := Blk.below hrb hb2 (Blk.lt hrb)
    have hrow2 := row_low hrow hb2
    have hx2 : w1.heap.size ≤ w2.heap.size := hk2.size
    have hbk := Blk.new w2 3 #[.int .i64 (n : Int)]
    have hlow := lowAlloc w2 (Obj.cells #[.int .i64 (n : Int)] 3)
    have hrow3 := World.ownsRow.alloc hrow2 (Obj.cells #[.int .i64 (n : Int)] 3)
    have hrb3 : RB (w2.alloc (Obj.cells #[.int .i64 (n : Int)] 3)) R ⟨r.toArray⟩ k := Blk.alloc hrb2 _
    have hk3 := hk2.below hlow
    have HRUN : Hid (∀ ty, ∃ v' w', (Builtin.append_ #[26, 26] ty #[u5, .slice (some ⟨w2.heap.size, 0, none⟩) 1 1]).run Tryz.prog (w2.alloc (Obj.cells #[.int .i64 (n : Int)] 3)) = .ok v' w' ∧ (w'.ownsRow w1.heap.size 3 1 v' (ns.length + 1) (iv (natV ns) ++ [.int .i64 (n : Int)]) ∧ (w2.alloc (Obj.cells #[.int .i64 (n : Int)] 3)).grownBy w' u5.ownBlock)) := by
     intro ty
     obtain ⟨v', w', r1, r2, r3, _⟩ := app_int (w2.alloc (Obj.cells #[.int .i64 (n : Int)] 3)) w1.heap.size ty u5 ns.length _ hrow3 w2.heap.size 1 (n : Int) hbk (by have := HNL.out; omega) (by simp; omega)
     exact ⟨v', w', r1, r2, r3⟩
    have HRB := Lib.hid (row_base hrow3)
    have HRZ1 : Hid (R < w1.heap.size) := Nat.lt_of_lt_of_le HRZ.out HKW.out.size
    clear hbk hrow3 hrow2 hrow hrb2 hrb hk hk2 hlow hb2 hwd cj HSN HNX
    go_wp2_with (at_builtin; go_loud (refine wpList_app rfl (.tmp 15) (.tmp 19) 26 rfl _ _ rfl rfl _ HRUN.out ?_); intro v' W4 hR4)
    have hrb4 := hrb3.grown hR4.2 (fun e => by have := HRB.out R e.symm; have := HRZ1.out; omega)
    have hk4 := hk3.grown hR4.2 (fun g e => HRB.out g e)
    have hrow4 : W4.ownsRow w1.heap.size 3 1 v' (ns ++ [n]).length (iv (natV (ns ++ [n]))) := by
     rw [natV_snoc, List.length_append]
     exact hR4.1
    refine ⟨⟨j + 1, ns ++ [n], by omega, by simp, HN1.out, hrow4, hrb4, hk4⟩, by simp [intOf]; omega⟩
  obtain rfl : j = ws.length := by omega
  have hnum : Ag.numsS l = some ns := by
   unfold Ag.numsS
   rw [HWS.out, ← HNS.out, List.take_length]
  have HOE : Hid (Ag.openS bg l = if bg.length ≤ ns.length ∧ ns.take bg.length = bg then some (ns.drop bg.length) else none) := by
   unfold Hid Ag.openS
   rw [hnum]
  have hn1 : 1 ≤ ns.length := by
   have := (Ag.nums_some hnum).1
   cases ns with
   | nil => exact absurd rfl this
   | cons a t => simp
  have HKT := Lib.hid (HKW.out.trans hk)
  obtain ⟨A5, q5, e5, hV5⟩ := int_vs (zs := natV ns) (by rw [natV_len]; exact hrow)
  rw [natV_len] at e5
  rcases hrow.2 with ⟨_, h0⟩ | ⟨g5, cap5, cur5, e6, hb5, hh5, hn5, hc5, hs5, ht5⟩
  ·
   omega
  rw [e6] at e5
  injection e5 with e51 e52 e53
  subst e51 e53
  subst e6
  have hbl := HBL.out
  have hd : decide ((bg.length : Int) ≤ (ns.length : Int)) = true := decide_eq_true (by omega)
  rcases HBG.out with ⟨rfl, rfl, rfl⟩ | ⟨x, b, off, rfl, rfl, hbR, hcx⟩
  ·
   have hEQ := Lib.hid (Tryz.slices_Equal_int_empty (some ⟨g5, 0, none⟩) none cap5 0 0 wr (by omega))
   go_wp2_with fail
   refine hEQ.out.mono ?_
   rintro e w3 ⟨rfl, rfl⟩
   go_wp2_with fail
   refine (Need_ok R _ k w3 hrb).mono ?_
   rintro e w4 ⟨rfl, rfl⟩
   go_wp2
   go_ret
   refine HOP.out _ _ ?_
   rw [HOE.out, if_pos (by simp)]
   exact ⟨g5, 0, cap5, by simp, Nat.le_trans HKW.out.size hb5, by simpa using hV5, hrb, HKT.out⟩
  have hcx2 : wr.cell? ⟨b, off, none⟩ = some (.int .i64 (x : Int)) := by
   have hlt := World.block_lt_of_cell? w ⟨b, off, none⟩ hcx
   exact (World.cell?_of_block (w := w) (a := ⟨b, off, none⟩) (HKT.out.blk b hlt hbR)).trans hcx
  have hEQ := Lib.hid (Tryz.slices_Equal_int g5 0 1 cap5 b off 1 c (natV ns) [(x : Int)] wr (by rw [natV_len]; omega) (by simp) (by omega) (by omega) (by
   intro j hj
   have hj' : j < (iv (natV ns)).length := by simpa [iv] using hj
   obtain ⟨b', off', e', _, hc⟩ := hV5 j hj'
   injection e' with e'
   injection e' with e1 e2
   subst e1 e2
   rw [hc]
   simp [iv, List.getD_eq_getElem?_getD, List.getElem?_eq_getElem hj]) (by
   intro j hj
   have : j = 0 := by simpa using hj
   subst this
   simpa using hcx2))
  clear hcx hcx2
  cases ns with
  | nil => simp at hn1
  | cons n0 nt =>
   have htk : ((natV (n0 :: nt)).take 1 == [(x : Int)].take 1) = decide (n0 = x) := by
    simp [natV]
    rw [Bool.eq_iff_iff]
    simp
    omega
   rw [htk] at hEQ
   have hHOE := HOE.out
   by_cases hx : n0 = x
   ·
    rw [decide_eq_true hx] at hEQ
    rw [if_pos (by subst hx; simp)] at hHOE
    have HO2 := Lib.hid hHOE
    clear hHOE HOE hnum
    simp only [List.length_singleton] at *
    go_wp2_with fail
    refine hEQ.out.mono ?_
    rintro e w3 ⟨rfl, q3, hw3⟩
    have hrb3 : RB w3 R ⟨r.toArray⟩ k := by rw [hw3]; exact hrb
    have hkt3 : RKeep R w w3 := by rw [hw3]; exact ⟨HKT.out.os, HKT.out.tape, HKT.out.output, HKT.out.size, HKT.out.blk⟩
    have hv3 : Vs w3 w3.heap.size (some ⟨g5, 1, none⟩) (iv (natV nt)) := by
     rw [hw3]
     intro j hj
     obtain ⟨b', off', e', hl', hc⟩ := hV5 (j + 1) (by simpa [iv, natV] using hj)
     injection e' with e'
     injection e' with e1 e2
     subst e1 e2
     refine ⟨g5, 1, rfl, hl', ?_⟩
     have e3 : (0 : Nat) + (j + 1) = 1 + j := by omega
     rw [e3] at hc
     exact hc
    clear hw3
    go_wp2_with fail
    refine (Need_ok R _ k w3 hrb3).mono ?_
    rintro e w4 ⟨rfl, rfl⟩
    by_cases hcap : cap5 = 1
    ·
     have hnt : nt = [] := by
      have := hn5
      rw [hcap] at this
      simp at this
      exact this
     subst hnt
     go_wp2
     go_ret
     refine HOP.out _ _ ?_
     rw [HO2.out]
     exact ⟨g5, 0, 0, by simp, Nat.le_trans HKW.out.size hb5, fun j hj => by simp [iv, natV] at hj, hrb3, hkt3⟩
    go_wp2
    go_ret
    refine HOP.out _ _ ?_
    rw [HO2.out]
    exact ⟨g5, 1, cap5 - 1, by simp, Nat.le_trans HKW.out.size hb5, hv3, hrb3, hkt3⟩
   rw [decide_eq_false hx] at hEQ
   rw [if_neg (by simp; exact hx)] at hHOE
   have HO2 := Lib.hid hHOE
   clear hHOE HOE hnum
   simp only [List.length_singleton] at *
   go_wp2_with fail
   refine hEQ.out.mono ?_
   rintro e w3 ⟨rfl, q3, hw3⟩
   have hrb3 : RB w3 R ⟨r.toArray⟩ k := by rw [hw3]; exact hrb
   have hkt3 : RKeep R w w3 := by rw [hw3]; exact ⟨HKT.out.os, HKT.out.tape, HKT.out.output, HKT.out.size, HKT.out.blk⟩
   clear hw3
   go_wp2_with fail
   refine (Need_bad R _ k w3 hrb3).mono ?_
   rintro e w4 ⟨rfl, rfl⟩
   exact ⟨rfl, HOP.out _ _ (by rw [HO2.out]; exact ⟨rfl, hkt3⟩)⟩
end Go.Proofs.YtpejilhdhkmcjaaGreatDoor
